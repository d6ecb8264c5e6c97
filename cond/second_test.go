package cond

import (
	"math/big"
	"strconv"
	"strings"

	"retrace/api"
)

// The chapter and what DOC.md says of values, written out a second time, over terms.

// stop is the first error that is met.
type stop struct{ errno api.Errno }

// second works a term out over variables and arrays.
type second struct {
	vars   []api.Shown
	arrays [][]api.Value
}

// evalPlainly is what Eval should answer for a term that has a type.
func evalPlainly(e *term, vars []api.Shown, arrays [][]api.Value) (value api.Value, errno api.Errno) {
	defer func() {
		if met, ok := recover().(stop); ok {
			value, errno = api.Value{}, met.errno
		}
	}()
	value, _ = second{vars, arrays}.work(e)
	return value, api.OK
}

// fitsPlainly is the chapter's word.
func fitsPlainly(value api.Value, typing string, arrays [][]api.Value) bool {
	switch typing {
	case "int":
		return value == i(value.Int)
	case "bool":
		return value == b(0) || value == b(1)
	case "text":
		return value == x(value.Text) && len(value.Text) <= 256
	}
	for n := range arrays {
		if value == r(int64(n)) {
			return true
		}
	}
	return false
}

func (s second) fit(value api.Value, typing string) (api.Value, string) {
	if !fitsPlainly(value, typing, s.arrays) {
		panic(stop{api.ErrArg})
	}
	return value, typing
}

// work is a term's value and its type.
func (s second) work(e *term) (api.Value, string) {
	switch e.kind {
	case api.KInt:
		return e.value, "int"
	case api.KBool:
		return e.value, "bool"
	case api.KText:
		return e.value, "text"
	case api.KName:
		for n := len(s.vars) - 1; n >= 0; n-- {
			if s.vars[n].Var.Name == e.word {
				return s.fit(s.vars[n].Value, s.vars[n].Var.Type)
			}
		}
		panic("no variable " + e.word)
	case api.KStr:
		value, typing := s.work(e.kids[0])
		switch typing {
		case "int":
			return x(strconv.Itoa(int(value.Int))), "text"
		case "bool":
			return x([]string{"false", "true"}[value.Int]), "text"
		}
		return value, "text"
	case api.KLen:
		value, typing := s.work(e.kids[0])
		if typing == "text" {
			return i(int64(len(value.Text))), "int"
		}
		return i(int64(len(s.arrays[value.Int]))), "int"
	case api.KUnary:
		value, typing := s.work(e.kids[0])
		if e.word == "!" {
			return b(1 - value.Int), typing
		}
		return wrapped(new(big.Int).Neg(big.NewInt(value.Int))), typing
	}
	first, typing := s.work(e.kids[0])
	if e.word == "&&" && first == b(0) || e.word == "||" && first == b(1) {
		return first, typing
	}
	right, _ := s.work(e.kids[1])
	switch {
	case e.word == "&&" || e.word == "||":
		return right, "bool"
	case e.kind == api.KIndex:
		return s.index(first, typing, right.Int)
	}
	return operate(e.word, typing, first, right)
}

func (s second) index(of api.Value, typing string, at int64) (api.Value, string) {
	if typing == "text" {
		for n, one := range []byte(of.Text) {
			if int64(n) == at {
				return i(int64(one)), "int"
			}
		}
		panic(stop{api.ErrTrap})
	}
	for n, element := range s.arrays[of.Int] {
		if int64(n) == at {
			return s.fit(element, strings.TrimSuffix(strings.TrimPrefix(typing, "["), "]"))
		}
	}
	panic(stop{api.ErrTrap})
}

// operate does an operator of two values of one type.
func operate(op, typing string, first, right api.Value) (api.Value, string) {
	order := big.NewInt(first.Int).Cmp(big.NewInt(right.Int))
	if typing == "text" {
		order = strings.Compare(first.Text, right.Text)
	}
	switch op {
	case "==":
		return truth(first == right), "bool"
	case "!=":
		return truth(first != right), "bool"
	case "<":
		return truth(order < 0), "bool"
	case "<=":
		return truth(order <= 0), "bool"
	case ">":
		return truth(order > 0), "bool"
	case ">=":
		return truth(order >= 0), "bool"
	}
	if typing == "text" {
		joined := first.Text + right.Text
		if len(joined) > 256 {
			panic(stop{api.ErrTrap})
		}
		return x(joined), "text"
	}
	return reckon(op, big.NewInt(first.Int), big.NewInt(right.Int)), "int"
}

func reckon(op string, first, right *big.Int) api.Value {
	got := new(big.Int)
	switch op {
	case "+":
		return wrapped(got.Add(first, right))
	case "-":
		return wrapped(got.Sub(first, right))
	case "*":
		return wrapped(got.Mul(first, right))
	}
	if right.Sign() == 0 {
		panic(stop{api.ErrTrap})
	}
	if op == "/" {
		return wrapped(got.Quo(first, right))
	}
	return wrapped(got.Rem(first, right))
}

func truth(holds bool) api.Value {
	if holds {
		return b(1)
	}
	return b(0)
}

// wrapped is the int that differs from n by a multiple of 2^64.
func wrapped(n *big.Int) api.Value {
	low := new(big.Int).And(n, new(big.Int).SetUint64(1<<64-1))
	return i(int64(low.Uint64()))
}

// deepPlainly is what Deep should answer.
func deepPlainly(value api.Value, arrays [][]api.Value, depth int) string {
	if depth > 4 {
		depth = 4
	}
	if depth < 1 || value.Kind != api.ValRef || !fitsPlainly(value, "[int]", arrays) {
		return showPlainly(value)
	}
	var words []string
	for n, element := range arrays[value.Int] {
		if n == 16 {
			words = append(words, "..")
			break
		}
		words = append(words, deepPlainly(element, arrays, depth-1))
	}
	return "[" + strings.Join(words, ", ") + "]"
}

func showPlainly(value api.Value) string {
	switch {
	case value == api.Value{}:
		return "-"
	case value == i(value.Int):
		return strconv.Itoa(int(value.Int))
	case value == b(0):
		return "false"
	case value == b(1):
		return "true"
	case value == r(value.Int) && value.Int >= 0:
		return "#" + strconv.Itoa(int(value.Int))
	case value == x(value.Text) && len(value.Text) <= 256:
		shown := ""
		for _, one := range []byte(value.Text) {
			switch {
			case one == '\n':
				shown += `\n`
			case one == '"' || one == '\\':
				shown += `\` + string(rune(one))
			case one < 32 || one > 126:
				shown += `\x` + strconv.FormatInt(int64(one)+256, 16)[1:]
			default:
				shown += string(rune(one))
			}
		}
		return `"` + shown + `"`
	}
	return "?"
}
