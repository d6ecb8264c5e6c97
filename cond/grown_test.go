package cond

import (
	"math"
	"strconv"
	"strings"
	"testing"

	"retrace/api"
	"retrace/flow"
	"retrace/lex"
	"retrace/parse"
	"retrace/types"
	"retrace/view"
	"retrace/walk"
)

func seeds(count int) int {
	if testing.Short() {
		return count / 20
	}
	return count
}

// grown is an expression with what it is worked out over.
type grown struct {
	*grower
	e            *term
	typing, text string
}

func grow(seed, wild int) grown {
	g := newGrower(seed, wild)
	typing := g.typing()
	e := g.term(typing, 1+g.Intn(5))
	return grown{grower: g, e: e, typing: typing, text: g.source(e, 0)}
}

// P19.1, P19.2, P19.3, P19.5: grown expressions, over values that fit and over some that do not, against the chapter written out a second time.
func TestGrown(t *testing.T) {
	codes := map[[2]int]int{}
	for seed := range seeds(120000) {
		wild := []int{0, 30, 150}[seed%3]
		g := grow(seed, wild)
		typing, problem := Check(g.text, declared(g.vars))
		if typing != g.typing || problem != (api.Problem{}) {
			t.Fatalf("seed %d: %q: %q, %v, want %q", seed, g.text, typing, problem, g.typing)
		}
		want, wantErrno := evalPlainly(g.e, g.vars, g.arrays)
		got, errno := Eval(g.text, g.vars, g.arrays)
		if got != want || errno != wantErrno {
			t.Fatalf("seed %d: %q: %v, %d, want %v, %d, over %v, %v", seed, g.text, got, errno, want, wantErrno, g.vars, g.arrays)
		}
		if errno == api.OK && !fitsPlainly(got, typing, g.arrays) {
			t.Fatalf("seed %d: %q: %v does not fit %s", seed, g.text, got, typing)
		}
		if wild == 0 && errno == api.ErrArg {
			t.Fatalf("seed %d: %q: ErrArg over values that fit", seed, g.text)
		}
		if holds := Holds(g.text, g.vars, g.arrays); holds != (errno == api.OK && got == b(1)) {
			t.Fatalf("seed %d: %q: %v, %d, holds: %v", seed, g.text, got, errno, holds)
		}
		codes[[2]int{wild, int(errno)}]++
	}
	for _, reached := range [][2]int{{0, int(api.OK)}, {0, int(api.ErrTrap)}, {30, int(api.ErrArg)}, {150, int(api.OK)}, {150, int(api.ErrArg)}, {150, int(api.ErrTrap)}} {
		if codes[reached] < seeds(1000) {
			t.Errorf("%v was reached too seldom: %v", reached, codes)
		}
	}
}

// spoil changes a text token by token.
func (g *grower) spoil(text string) string {
	tokens, _ := lex.Scan(text)
	if len(tokens) < 2 {
		return text
	}
	for range 1 + g.Intn(2) {
		n := g.Intn(len(tokens) - 1)
		at, end := tokens[n].At, tokens[n].End
		if end > len(text) {
			break
		}
		other := pick(g, "", "x", "v1", "v2", "v3", "f(1)", "new int[1]", "(", ")", "1", "true", `"q"`, "+", "&&", "[0]", "$", "len(v1)", "str(v1)", " v1 ", "-", "!", "if", "01")
		text = text[:at] + other + text[end:]
	}
	return text
}

// P19.1, P19.2: texts in which something is wrong, or something else is right: Check is parse and types, one behind the other, and Eval tells their code.
func TestSpoilt(t *testing.T) {
	codes := map[api.Errno]int{}
	for seed := range seeds(60000) {
		g := grow(seed, []int{0, 100}[seed%2])
		text := g.spoil(g.text)
		vars := declared(g.vars)
		if g.Intn(4) == 0 && len(g.vars) > 0 {
			n := g.Intn(len(g.vars))
			g.vars[n].Var.Type = pick(g.grower, "void", "", "[[[[[int]]]]]", "int", "text", "[int]", "[ int]")
			vars = declared(g.vars)
		}
		var wantTyping string
		e, want := parse.Expr(text)
		if want.Code == api.OK {
			wantTyping, want = types.Of(e, vars)
		}
		typing, problem := Check(text, vars)
		if typing != wantTyping || problem != want {
			t.Fatalf("seed %d: %q: %q, %v, want %q, %v", seed, text, typing, problem, wantTyping, want)
		}
		codes[problem.Code]++
		got, errno := Eval(text, g.vars, g.arrays)
		switch {
		case problem.Code != api.OK && (got != (api.Value{}) || errno != problem.Code):
			t.Fatalf("seed %d: %q: %v, %d, want %d", seed, text, got, errno, problem.Code)
		case problem.Code == api.OK && errno == api.OK && !fitsPlainly(got, typing, g.arrays):
			t.Fatalf("seed %d: %q: %v does not fit %s", seed, text, got, typing)
		case problem.Code == api.OK && errno != api.OK && (got != (api.Value{}) || errno != api.ErrArg && errno != api.ErrTrap):
			t.Fatalf("seed %d: %q: %v, %d", seed, text, got, errno)
		}
		if holds := Holds(text, g.vars, g.arrays); holds != (text == "" || errno == api.OK && got == b(1)) {
			t.Fatalf("seed %d: %q holds: %v", seed, text, holds)
		}
	}
	for _, errno := range []api.Errno{api.OK, api.ErrToken, api.ErrByte, api.ErrUnseen, api.ErrType, api.ErrExpr, api.ErrNumber} {
		if codes[errno] < seeds(400) {
			t.Errorf("error %d was reached too seldom: %v", errno, codes)
		}
	}
}

// literal is how a value stands in a source, in brackets, if it can.
func literal(value api.Value, typing string) (string, bool) {
	switch {
	case !fitsPlainly(value, typing, nil), value == i(math.MinInt64), len(value.Text) > api.MaxLiteral:
		return "", false
	case typing == "int":
		return "(" + strconv.Itoa(int(value.Int)) + ")", true
	case typing == "bool":
		return "(" + strconv.FormatBool(value == b(1)) + ")", true
	}
	return "(" + lex.Quote(value.Text) + ")", true
}

// replaced is a text in which values stand in the place of some names: how many of them.
func (g *grower) replaced(text string, all bool) (string, int) {
	var parts []string
	tokens, _ := lex.Scan(text)
	from, count := 0, 0
	for _, token := range tokens {
		if token.Kind != api.TokName || !all && g.Intn(2) == 0 {
			continue
		}
		one := g.vars[g.last(token.Text)]
		if word, some := literal(one.Value, one.Var.Type); some {
			parts = append(parts, text[from:token.At], word)
			from = token.End
			count++
		}
	}
	return strings.Join(append(parts, text[from:]), ""), count
}

// P19.6: a variable's name may be replaced by what it is worth, at some places or at all.
func TestReplaced(t *testing.T) {
	count, plain := 0, 0
	for seed := range seeds(40000) {
		g := grow(seed, []int{0, 60}[seed%2])
		want, wantErrno := Eval(g.text, g.vars, g.arrays)
		text, places := g.replaced(g.text, seed%4 < 2)
		if _, problem := parse.Expr(text); problem.Code != api.OK {
			t.Fatalf("seed %d: %q is %q, which cannot be read: %v", seed, g.text, text, problem)
		}
		vars := g.vars
		if seed%4 < 2 {
			// What is replaced everywhere need not be there any more.
			vars = nil
			for _, one := range g.vars {
				last := g.vars[g.last(one.Var.Name)]
				if _, some := literal(last.Value, last.Var.Type); !some {
					vars = append(vars, one)
				}
			}
		}
		if typing, problem := Check(text, declared(vars)); typing != g.typing || problem.Code != api.OK {
			t.Fatalf("seed %d: %q, replaced in %q: %q, %v", seed, text, g.text, typing, problem)
		}
		if got, errno := Eval(text, vars, g.arrays); got != want || errno != wantErrno {
			t.Fatalf("seed %d: %q: %v, %d; with values %q: %v, %d", seed, g.text, want, wantErrno, text, got, errno)
		}
		count += places
		if len(vars) == 0 {
			plain++
		}
	}
	if count < seeds(20000) || plain < seeds(3000) {
		t.Errorf("%d names were replaced, %d texts have none left", count, plain)
	}
}

// P19.4: grown arrays, which may go round and in which anything may stand.
func TestDeepGrown(t *testing.T) {
	deepest := 0
	for seed := range seeds(6000) {
		g := newGrower(seed, []int{0, 100}[seed%2])
		for range 1 + g.Intn(3) {
			g.value(g.typing())
		}
		if seed%3 == 0 {
			for _, list := range g.arrays {
				for n := range list {
					if n < 3 && g.Intn(3) == 0 {
						list[n] = r(int64(g.Intn(len(g.arrays) + 1)))
					}
				}
			}
		}
		values := []api.Value{g.anything()}
		for n := range min(len(g.arrays), 8) {
			values = append(values, r(int64(n)))
		}
		for _, one := range values {
			for depth := -1; depth <= 6; depth++ {
				want := deepPlainly(one, g.arrays, depth)
				if got := Deep(one, g.arrays, depth); got != want {
					t.Fatalf("seed %d: Deep(%v, %v, %d): %s, want %s", seed, one, g.arrays, depth, got, want)
				}
				if strings.Contains(want, "[[[[") {
					deepest++
				}
			}
		}
	}
	if deepest < seeds(1000) {
		t.Errorf("only %d were as deep as may be", deepest)
	}
}

// program is a source in which the variables are declared and get their values, and then the expression is asked for.
func (g grown) program() string {
	var out strings.Builder
	out.WriteString("fn main() { ")
	sorts := g.elements()
	for n := 1; n < len(g.arrays); n++ {
		out.WriteString("var a" + strconv.Itoa(n) + ": [" + sorts[n] + "] = new " + sorts[n] + "[" + strconv.Itoa(len(g.arrays[n])) + "]; ")
	}
	for n, list := range g.arrays {
		for at, element := range list {
			out.WriteString("a" + strconv.Itoa(n) + "[" + strconv.Itoa(at) + "] = " + made(element, sorts[n]) + "; ")
		}
	}
	for _, one := range g.vars {
		out.WriteString("var " + one.Var.Name + ": " + one.Var.Type + " = " + made(one.Value, one.Var.Type) + "; ")
	}
	out.WriteString("var result: " + g.typing + " = " + g.text + "; }")
	return out.String()
}

// elements are the types of the arrays' elements, by number, as they follow from the variables.
func (g grown) elements() []string {
	sorts := make([]string, len(g.arrays))
	var mark func(value api.Value, typing string)
	mark = func(value api.Value, typing string) {
		if value.Kind != api.ValRef || value.Int == 0 {
			return
		}
		inner := typing[1 : len(typing)-1]
		sorts[value.Int] = inner
		for _, element := range g.arrays[value.Int] {
			mark(element, inner)
		}
	}
	for _, one := range g.vars {
		mark(one.Value, one.Var.Type)
	}
	return sorts
}

// made is an expression of a program that gives a value.
func made(value api.Value, typing string) string {
	switch {
	case value == i(math.MinInt64):
		return "-9223372036854775807 - 1"
	case value == r(0):
		// An element of a new array is the empty array.
		return "new " + typing + "[1][0]"
	case value.Kind == api.ValRef:
		return "a" + strconv.Itoa(int(value.Int))
	case len(value.Text) > api.MaxLiteral:
		return lex.Quote(value.Text[:api.MaxLiteral]) + " + " + lex.Quote(value.Text[api.MaxLiteral:])
	}
	word, _ := literal(value, typing)
	return word
}

// P19.2: what a program that asks for the same expression finds: in a stopped run an expression is worth what it would be worth there.
func TestPrograms(t *testing.T) {
	ended, trapped := 0, 0
	for seed := range seeds(9000) {
		g := grow(seed, 0)
		source := g.program()
		p, problem := flow.Front(source)
		switch {
		case problem.Code == api.ErrSize, problem.Code == api.ErrMany:
			continue
		case problem.Code == api.ErrType && strings.Contains(source, "new [[[["):
			// No program has the empty array as one of so many brackets.
			continue
		case problem.Code != api.OK:
			t.Fatalf("seed %d: %s: %v", seed, source, problem)
		}
		run, errno := walk.Run(p, nil, api.Limits{Depth: 1, Cells: 10000}, 20000)
		if errno != api.OK || run.Outcome.Phase == api.Running {
			t.Fatalf("seed %d: %d, %v", seed, errno, run.Outcome)
		}
		// The last two events are the result's and main's end, or they are not there.
		events := run.Events
		if run.Outcome.Phase == api.Ended {
			events = events[:len(events)-2]
		}
		seen, _ := view.New(p)
		for _, event := range events {
			if seen.Take(event) != api.OK {
				t.Fatalf("seed %d: %v", seed, event)
			}
		}
		got, errno := Eval(g.text, seen.Frames()[0].Vars, run.Arrays)
		if run.Outcome.Phase == api.Trapped {
			if got != (api.Value{}) || errno != api.ErrTrap {
				t.Fatalf("seed %d: %q traps with %d: %v, %d", seed, g.text, run.Outcome.Trap, got, errno)
			}
			trapped++
			continue
		}
		if want := run.Events[len(events)].Value; got != want || errno != api.OK {
			t.Fatalf("seed %d: %q: %v, %d, want %v", seed, g.text, got, errno, want)
		}
		ended++
	}
	if ended < seeds(4000) || trapped < seeds(1000) {
		t.Errorf("%d ended, %d trapped", ended, trapped)
	}
}
