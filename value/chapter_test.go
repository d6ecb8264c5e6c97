package value

import (
	"fmt"
	"math"
	"math/big"
	"math/rand"
	"strings"

	"retrace/api"
)

// This file says the chapter's words a second time, by other means: ints as numbers of any size, texts byte by byte.

func i(n int64) api.Value { return api.Value{Kind: api.ValInt, Int: n} }

func b(n int64) api.Value { return api.Value{Kind: api.ValBool, Int: n} }

func s(text string) api.Value { return api.Value{Kind: api.ValText, Text: text} }

func r(n int64) api.Value { return api.Value{Kind: api.ValRef, Int: n} }

// answer is what a call that can trap gives.
type answer struct {
	value api.Value
	trap  api.Trap
}

func trapped(trap api.Trap) answer { return answer{trap: trap} }

func mayBe(v api.Value) bool {
	bare := v.Text == ""
	return v == api.Value{} ||
		v.Kind == 1 && bare ||
		v == b(0) || v == b(1) ||
		v.Kind == 3 && v.Int == 0 && len(v.Text) < 257 ||
		v.Kind == 4 && v.Int > -1 && bare
}

func isOperand(v api.Value) bool { return mayBe(v) && v.Kind != 0 }

func zeroOf(k api.ValueKind) api.Value {
	for _, v := range []api.Value{i(0), b(0), s(""), r(0)} {
		if v.Kind == k {
			return v
		}
	}
	return api.Value{}
}

// wrapped is the int that differs from n by a multiple of 2^64.
func wrapped(n *big.Int) api.Value {
	whole := new(big.Int).Lsh(big.NewInt(1), 64)
	half := new(big.Int).Lsh(big.NewInt(1), 63)
	rest := new(big.Int).Mod(new(big.Int).Add(n, half), whole)
	return i(rest.Sub(rest, half).Int64())
}

func asBool(holds bool) answer {
	if holds {
		return answer{value: b(1)}
	}
	return answer{value: b(0)}
}

func unaryPlainly(op api.Op, v api.Value) answer {
	if op == api.OpNeg && isOperand(v) && v.Kind == api.ValInt {
		return answer{value: wrapped(new(big.Int).Sub(new(big.Int), big.NewInt(v.Int)))}
	}
	if op == api.OpNot && v == b(0) {
		return answer{value: b(1)}
	}
	if op == api.OpNot && v == b(1) {
		return answer{value: b(0)}
	}
	return trapped(api.TrapStuck)
}

// divided is the quotient cut towards 0 and what is left, found without signs.
func divided(a, b *big.Int) (quotient, rest *big.Int) {
	quotient, _ = new(big.Int).DivMod(new(big.Int).Abs(a), new(big.Int).Abs(b), new(big.Int))
	if a.Sign()*b.Sign() < 0 {
		quotient.Neg(quotient)
	}
	return quotient, new(big.Int).Sub(a, new(big.Int).Mul(b, quotient))
}

func arithmeticPlainly(op api.Op, x, y int64) answer {
	a, b := big.NewInt(x), big.NewInt(y)
	switch op {
	case api.OpAdd:
		return answer{value: wrapped(new(big.Int).Add(a, b))}
	case api.OpSub:
		return answer{value: wrapped(new(big.Int).Sub(a, b))}
	case api.OpMul:
		return answer{value: wrapped(new(big.Int).Mul(a, b))}
	}
	if y == 0 {
		return trapped(api.TrapDivide)
	}
	quotient, rest := divided(a, b)
	if op == api.OpDiv {
		return answer{value: wrapped(quotient)}
	}
	return answer{value: wrapped(rest)}
}

// isBelow tells whether a text is below another one: the first byte that differs counts.
func isBelow(a, b string) bool {
	for n := 0; n < len(a) && n < len(b); n++ {
		if a[n] != b[n] {
			return int(a[n]) < int(b[n])
		}
	}
	return len(a) < len(b)
}

func binaryPlainly(op api.Op, x, y api.Value) answer {
	if !isOperand(x) || !isOperand(y) || x.Kind != y.Kind {
		return trapped(api.TrapStuck)
	}
	ints, texts := x.Kind == api.ValInt, x.Kind == api.ValText
	below, above := big.NewInt(x.Int).Cmp(big.NewInt(y.Int)) < 0, big.NewInt(x.Int).Cmp(big.NewInt(y.Int)) > 0
	if texts {
		below, above = isBelow(x.Text, y.Text), isBelow(y.Text, x.Text)
	}
	switch {
	case ints && op >= api.OpAdd && op <= api.OpMod:
		return arithmeticPlainly(op, x.Int, y.Int)
	case texts && op == api.OpAdd && len(x.Text)+len(y.Text) >= 257:
		return trapped(api.TrapLong)
	case texts && op == api.OpAdd:
		return answer{value: s(fmt.Sprintf("%s%s", x.Text, y.Text))}
	case op == api.OpEq:
		return asBool(fmt.Sprint(x) == fmt.Sprint(y))
	case op == api.OpNe:
		return asBool(fmt.Sprint(x) != fmt.Sprint(y))
	case !ints && !texts:
		return trapped(api.TrapStuck)
	case op == api.OpLt:
		return asBool(below)
	case op == api.OpLe:
		return asBool(!above)
	case op == api.OpGt:
		return asBool(above)
	case op == api.OpGe:
		return asBool(!below)
	}
	return trapped(api.TrapStuck)
}

func atPlainly(v, place api.Value) answer {
	if !isOperand(v) || !isOperand(place) || v.Kind != api.ValText || place.Kind != api.ValInt {
		return trapped(api.TrapStuck)
	}
	for n, one := range []byte(v.Text) {
		if int64(n) == place.Int {
			return answer{value: i(int64(one))}
		}
	}
	return trapped(api.TrapIndex)
}

func strPlainly(v api.Value) string {
	switch {
	case v == b(1):
		return "true"
	case v == b(0):
		return "false"
	case mayBe(v) && v.Kind == api.ValInt:
		return big.NewInt(v.Int).String()
	case mayBe(v) && v.Kind == api.ValText:
		return v.Text
	}
	return ""
}

func showPlainly(v api.Value) string {
	switch {
	case !mayBe(v):
		return "?"
	case v.Kind == 0:
		return "-"
	case v.Kind == api.ValRef:
		return fmt.Sprintf("#%d", v.Int)
	case v.Kind != api.ValText:
		return strPlainly(v)
	}
	var shown strings.Builder
	for _, one := range []byte(v.Text) {
		switch {
		case one == 10:
			shown.WriteString(`\n`)
		case one == 34:
			shown.WriteString(`\"`)
		case one == 92:
			shown.WriteString(`\\`)
		case one < 32 || one > 126:
			shown.WriteString(fmt.Sprintf(`\x%02x`, one))
		default:
			shown.WriteByte(one)
		}
	}
	return `"` + shown.String() + `"`
}

// edges are ints at which something changes.
func edges() []int64 {
	var ints []int64
	for _, n := range []int64{0, 10, 100, 255, 256, 257, 1 << 31, 1 << 32, 1 << 62, 3037000500, math.MaxInt64, math.MinInt64, math.MinInt64 / 2, math.MaxInt64 / 3} {
		for near := int64(-2); near <= 2; near++ {
			ints = append(ints, n+near, -(n + near))
		}
	}
	return distinct(ints)
}

func distinct[T comparable](list []T) []T {
	seen := map[T]bool{}
	var once []T
	for _, one := range list {
		if !seen[one] {
			seen[one] = true
			once = append(once, one)
		}
	}
	return once
}

// sometimes is an int of any size.
func sometimes(random *rand.Rand) int64 {
	n := int64(random.Uint64()) >> random.Intn(64)
	if random.Intn(8) == 0 {
		return edges()[random.Intn(len(edges()))]
	}
	return n
}

// someText is a text of some bytes, the same ones often.
func someText(random *rand.Rand, most int) string {
	text := make([]byte, random.Intn(most+1))
	for n := range text {
		text[n] = "ab\x00\xff\"\\\n\x1f\x20\x7e\x7f\x80"[random.Intn(12)]
		if random.Intn(4) == 0 {
			text[n] = byte(random.Intn(256))
		}
	}
	return string(text)
}

// shortTexts are all texts of at most two of some bytes, and some long ones.
func shortTexts() []string {
	texts := []string{""}
	bytes := []string{"\x00", "\n", "\x1f", " ", "\"", "0", "\\", "a", "b", "~", "\x7f", "\x80", "\xff"}
	for _, one := range bytes {
		texts = append(texts, one)
		for _, other := range bytes {
			texts = append(texts, one+other)
		}
	}
	for _, length := range []int{100, 127, 128, 129, 156, 200, 201, 254, 255, 256} {
		texts = append(texts, strings.Repeat("a", length), strings.Repeat("\xff", length-1)+"a", strings.Repeat("a", length-1)+"\x00")
	}
	return texts
}

// anything are values of every kind and of none, that may be and that may not.
func anything() []api.Value {
	var values []api.Value
	for _, kind := range []api.ValueKind{math.MinInt, -2, -1, 0, 1, 2, 3, 4, 5, 6, 1 << 32, 1<<32 + 1, 1<<32 + 3, math.MaxInt} {
		for _, n := range []int64{math.MinInt64, -2, -1, 0, 1, 2, 3, 1 << 32, 1<<32 + 1, math.MaxInt64} {
			for _, text := range []string{"", "a", "b", "\x00", "1", strings.Repeat("x", 255), strings.Repeat("x", 256), strings.Repeat("x", 257), strings.Repeat("x", 512)} {
				values = append(values, api.Value{Kind: kind, Int: n, Text: text})
			}
		}
	}
	return values
}

// operators are all, some that are none among them.
func operators() []api.Op {
	ops := []api.Op{math.MinInt, math.MaxInt, 1<<32 + api.OpAdd, 1<<32 + api.OpEq}
	for op := api.Op(-3); op <= api.OpOr+3; op++ {
		ops = append(ops, op)
	}
	return ops
}
