package value

import (
	"math"
	"math/rand"
	"strings"
	"testing"
	"unsafe"

	"retrace/api"
	"retrace/lex"
)

func unary(op api.Op, v api.Value) answer {
	value, trap := Unary(op, v)
	return answer{value, trap}
}

func binary(op api.Op, x, y api.Value) answer {
	value, trap := Binary(op, x, y)
	return answer{value, trap}
}

func at(v, place api.Value) answer {
	value, trap := At(v, place)
	return answer{value, trap}
}

// holds checks an answer against the chapter's words, and that it may be (P9.8).
func holds(t *testing.T, what string, got, want answer, given ...any) {
	t.Helper()
	if got != want {
		t.Fatalf("%s of %v: %v, want %v", what, given, got, want)
	}
	if !mayBe(got.value) || got.trap != api.NoTrap && got.value != (api.Value{}) {
		t.Fatalf("%s of %v: %v, which may not be", what, given, got)
	}
}

// The examples of the chapter.
func TestExamples(t *testing.T) {
	least := i(math.MinInt64)
	stuck, divide := trapped(api.TrapStuck), trapped(api.TrapDivide)
	for _, row := range []struct {
		got, want answer
	}{
		{unary(api.OpNeg, least), answer{value: least}},
		{unary(api.OpNot, b(0)), answer{value: b(1)}},
		{unary(api.OpNot, i(0)), stuck},
		{binary(api.OpAdd, i(math.MaxInt64), i(1)), answer{value: least}},
		{binary(api.OpDiv, i(-7), i(2)), answer{value: i(-3)}},
		{binary(api.OpMod, i(-7), i(2)), answer{value: i(-1)}},
		{binary(api.OpMod, i(7), i(-2)), answer{value: i(1)}},
		{binary(api.OpDiv, least, i(-1)), answer{value: least}},
		{binary(api.OpMod, least, i(-1)), answer{value: i(0)}},
		{binary(api.OpDiv, i(1), i(0)), divide},
		{binary(api.OpMod, i(0), i(0)), divide},
		{binary(api.OpAdd, s("ab"), s("c")), answer{value: s("abc")}},
		{binary(api.OpAdd, s(strings.Repeat("x", 256)), s("c")), trapped(api.TrapLong)},
		{binary(api.OpLt, s("a"), s("a\x00")), answer{value: b(1)}},
		{binary(api.OpLt, s("\xff"), s("a")), answer{value: b(0)}},
		{binary(api.OpGe, s("b"), s("ab")), answer{value: b(1)}},
		{binary(api.OpEq, r(1), r(1)), answer{value: b(1)}},
		{binary(api.OpEq, b(1), i(1)), stuck},
		{binary(api.OpLt, b(0), b(1)), stuck},
		{binary(api.OpAnd, b(1), b(1)), stuck},
		{at(s("a\xff"), i(1)), answer{value: i(255)}},
		{at(s("a"), i(1)), trapped(api.TrapIndex)},
		{at(s("a"), i(-1)), trapped(api.TrapIndex)},
		{at(r(1), i(0)), stuck},
	} {
		if row.got != row.want {
			t.Errorf("%v, want %v", row.got, row.want)
		}
	}
	for _, row := range []struct {
		got, want string
	}{
		{Str(i(-5)), "-5"},
		{Str(b(1)), "true"},
		{Str(s("a b")), "a b"},
		{Str(r(3)), ""},
		{Show(s("a\"\n\xff")), `"a\"\n\xff"`},
		{Show(r(3)), "#3"},
		{Show(api.Value{}), "-"},
		{Show(api.Value{Kind: api.ValBool, Int: 2}), "?"},
	} {
		if row.got != row.want {
			t.Errorf("%s, want %s", row.got, row.want)
		}
	}
}

// P9.1: which values may be.
func TestValid(t *testing.T) {
	count := 0
	for _, v := range anything() {
		if Valid(v) != mayBe(v) {
			t.Errorf("%v: %v", v, Valid(v))
		}
		if Valid(v) {
			count++
		}
	}
	// None; 10 ints; 2 bools; 7 texts; 7 references.
	if count != 1+10+2+7+7 {
		t.Errorf("%d of them may be", count)
	}
	for length := range 600 {
		if v := s(strings.Repeat("\xff", length)); Valid(v) != (length <= api.MaxText) {
			t.Errorf("a text of %d bytes: %v", length, Valid(v))
		}
	}
}

// P9.1: what elements begin with.
func TestZero(t *testing.T) {
	for k := api.ValueKind(-300); k <= 300; k++ {
		if got := Zero(k); got != zeroOf(k) || !Valid(got) {
			t.Errorf("%d: %v", k, got)
		}
		if want := (api.Value{Kind: k}); k >= api.ValNone && k <= api.ValRef && Zero(k) != want {
			t.Errorf("%d: %v", k, Zero(k))
		}
	}
	for _, k := range []api.ValueKind{math.MinInt, math.MaxInt, 1 << 32, 1<<32 + 1, -1 << 63} {
		if got := Zero(k); got != (api.Value{}) {
			t.Errorf("%d: %v", k, got)
		}
	}
}

// P9.2: operators of one value.
func TestUnary(t *testing.T) {
	for _, op := range operators() {
		for _, v := range anything() {
			holds(t, "unary", unary(op, v), unaryPlainly(op, v), op, v)
		}
		for _, n := range edges() {
			holds(t, "unary", unary(op, i(n)), unaryPlainly(op, i(n)), op, n)
		}
	}
	random := rand.New(rand.NewSource(1))
	for range 20000 {
		n := sometimes(random)
		holds(t, "unary", unary(api.OpNeg, i(n)), unaryPlainly(api.OpNeg, i(n)), n)
	}
}

// P9.3, P9.8: operators of two values, of whatever they are given.
func TestBinaryOfAnything(t *testing.T) {
	values := anything()
	for _, op := range operators() {
		for n, x := range values {
			// Two that fit, and two of which at most one may be.
			if !mayBe(x) && n%7 != 0 {
				continue
			}
			for _, y := range values {
				got := binary(op, x, y)
				if !mayBe(x) || !mayBe(y) || x.Kind != y.Kind || x.Kind == api.ValNone {
					if got != trapped(api.TrapStuck) {
						t.Fatalf("%v %d %v: %v", x, op, y, got)
					}
					continue
				}
				holds(t, "binary", got, binaryPlainly(op, x, y), x, op, y)
			}
		}
	}
}

// P9.3: arithmetic, and the order of ints.
func TestBinaryOfInts(t *testing.T) {
	for _, op := range operators() {
		for _, x := range edges() {
			for _, y := range edges() {
				holds(t, "binary", binary(op, i(x), i(y)), binaryPlainly(op, i(x), i(y)), x, op, y)
			}
		}
	}
	random := rand.New(rand.NewSource(2))
	for range 5000 {
		x, y := sometimes(random), sometimes(random)
		for op := api.OpAdd; op <= api.OpGe; op++ {
			holds(t, "binary", binary(op, i(x), i(y)), binaryPlainly(op, i(x), i(y)), x, op, y)
		}
	}
}

// P9.3: texts joined, and their order.
func TestBinaryOfTexts(t *testing.T) {
	for _, op := range operators() {
		for _, x := range shortTexts() {
			for _, y := range shortTexts() {
				holds(t, "binary", binary(op, s(x), s(y)), binaryPlainly(op, s(x), s(y)), x, op, y)
			}
		}
	}
	random := rand.New(rand.NewSource(3))
	for range 5000 {
		x := someText(random, 256)
		y := x[:random.Intn(len(x)+1)] + someText(random, 8)
		if len(y) > api.MaxText {
			continue
		}
		for op := api.OpAdd; op <= api.OpGe; op++ {
			holds(t, "binary", binary(op, s(x), s(y)), binaryPlainly(op, s(x), s(y)), x, op, y)
			holds(t, "binary", binary(op, s(y), s(x)), binaryPlainly(op, s(y), s(x)), y, op, x)
		}
	}
}

// P9.3: every byte against every one.
func TestOrderOfBytes(t *testing.T) {
	for x := range 256 {
		for y := range 256 {
			one, other := s("a"+string([]byte{byte(x)})), s("a"+string([]byte{byte(y)}))
			if got := binary(api.OpLt, one, other); got != asBool(x < y) {
				t.Fatalf("%d below %d: %v", x, y, got)
			}
			if got := binary(api.OpEq, one, other); got != asBool(x == y) {
				t.Fatalf("%d equal to %d: %v", x, y, got)
			}
		}
	}
}

// P9.3: a text may get just as long as the limit, from whatever two.
func TestLongestText(t *testing.T) {
	for length := range api.MaxText + 1 {
		x := s(strings.Repeat("x", length))
		fits, long := s(strings.Repeat("y", api.MaxText-length)), s(strings.Repeat("y", api.MaxText-length+1))
		want := s(x.Text + fits.Text)
		if got := binary(api.OpAdd, x, fits); got != (answer{value: want}) || len(got.value.Text) != 256 {
			t.Fatalf("%d bytes and %d: %v", length, len(fits.Text), got)
		}
		wrong := trapped(api.TrapLong)
		if length == 0 {
			// The other text may not be itself.
			wrong = trapped(api.TrapStuck)
		}
		if got := binary(api.OpAdd, x, long); got != wrong {
			t.Fatalf("%d bytes and %d: %v", length, len(long.Text), got)
		}
	}
}

// P9.4: bytes of a text.
func TestAt(t *testing.T) {
	for _, text := range shortTexts() {
		for _, n := range edges() {
			holds(t, "at", at(s(text), i(n)), atPlainly(s(text), i(n)), text, n)
		}
		for n := int64(-300); n <= 300; n++ {
			holds(t, "at", at(s(text), i(n)), atPlainly(s(text), i(n)), text, n)
		}
	}
	for one := range 256 {
		if got := at(s("a"+string([]byte{byte(one)})), i(1)); got != (answer{value: i(int64(one))}) {
			t.Errorf("the byte %d: %v", one, got)
		}
	}
	values := anything()
	for n, v := range values {
		if !mayBe(v) && n%5 != 0 {
			continue
		}
		for _, place := range values {
			holds(t, "at", at(v, place), atPlainly(v, place), v, place)
		}
	}
}

// P9.5, P9.6: how values are printed and shown.
func TestStrAndShow(t *testing.T) {
	values := anything()
	for _, n := range edges() {
		values = append(values, i(n), r(n), b(n))
	}
	for _, text := range shortTexts() {
		values = append(values, s(text))
	}
	for one := range 256 {
		values = append(values, s(string([]byte{byte(one)})), s("a"+string([]byte{byte(one), byte(one)})+"b"))
	}
	random := rand.New(rand.NewSource(4))
	for range 3000 {
		values = append(values, s(someText(random, 256)), i(sometimes(random)))
	}
	for _, v := range values {
		if got := Str(v); got != strPlainly(v) {
			t.Fatalf("%v is printed %q", v, got)
		}
		if got := Show(v); got != showPlainly(v) {
			t.Fatalf("%v is shown %s", v, got)
		}
	}
	shownTwice(t, values)
}

// shownTwice checks that no two values that may be are shown by one text, and that no value that may not be is shown as one that may.
func shownTwice(t *testing.T, values []api.Value) {
	t.Helper()
	shown := map[string]api.Value{}
	for _, v := range distinct(values) {
		if !mayBe(v) {
			continue
		}
		text := Show(v)
		if other, twice := shown[text]; twice {
			t.Fatalf("%v and %v are both shown %s", v, other, text)
		}
		shown[text] = v
	}
	if v, taken := shown["?"]; taken {
		t.Fatalf("%v is shown ?", v)
	}
}

// P9.5, P9.6: small ints digit by digit, the two bools, and the greatest.
func TestDecimalDigits(t *testing.T) {
	for _, row := range []struct {
		v         api.Value
		str, show string
	}{
		{i(0), "0", "0"},
		{i(7), "7", "7"},
		{i(-1), "-1", "-1"},
		{i(10), "10", "10"},
		{i(100), "100", "100"},
		{i(-1000), "-1000", "-1000"},
		{i(1234567890), "1234567890", "1234567890"},
		{i(math.MaxInt64), "9223372036854775807", "9223372036854775807"},
		{i(math.MinInt64), "-9223372036854775808", "-9223372036854775808"},
		{b(0), "false", "false"},
		{b(1), "true", "true"},
		{s(""), "", `""`},
		{s("-"), "-", `"-"`},
		{s("?"), "?", `"?"`},
		{s("true"), "true", `"true"`},
		{s("#1"), "#1", `"#1"`},
		{r(0), "", "#0"},
		{r(math.MaxInt64), "", "#9223372036854775807"},
		{r(-1), "", "?"},
		{api.Value{}, "", "-"},
		{api.Value{Text: "a"}, "", "?"},
		{api.Value{Int: 1}, "", "?"},
		{api.Value{Kind: api.ValInt, Int: 1, Text: "a"}, "", "?"},
		{api.Value{Kind: api.ValText, Int: 1, Text: "a"}, "", "?"},
		{api.Value{Kind: 5}, "", "?"},
	} {
		if got := Str(row.v); got != row.str {
			t.Errorf("%v is printed %q, want %q", row.v, got, row.str)
		}
		if got := Show(row.v); got != row.show {
			t.Errorf("%v is shown %s, want %s", row.v, got, row.show)
		}
	}
}

// P9.6: a text is shown as one of the source: what reads sources reads it back.
func TestShownTextsAreRead(t *testing.T) {
	random := rand.New(rand.NewSource(5))
	texts := shortTexts()
	for range 2000 {
		texts = append(texts, someText(random, api.MaxLiteral))
	}
	for _, text := range texts {
		if len(text) > api.MaxLiteral {
			continue
		}
		shown := Show(s(text))
		tokens, problem := lex.Scan(shown)
		if problem.Code != api.OK || len(tokens) != 2 || tokens[0].Kind != api.TokText || tokens[0].Text != text {
			t.Fatalf("%q is shown %s, which is read as %v, %v", text, shown, tokens, problem)
		}
	}
}

// P9.8, and the rule on new memory: no answer shares any with what was handed in.
func TestNewMemory(t *testing.T) {
	x, y := s(strings.Repeat("some text", 3)), s(strings.Repeat("other", 5))
	apart := func(what, got string) {
		t.Helper()
		for _, given := range []api.Value{x, y} {
			if got != "" && unsafe.StringData(got) == unsafe.StringData(given.Text) {
				t.Errorf("%s shares memory with what was handed in", what)
			}
		}
	}
	apart("a printed text", Str(x))
	apart("a shown text", Show(x))
	for _, pair := range [][2]api.Value{{x, y}, {x, s("")}, {s(""), y}} {
		got := binary(api.OpAdd, pair[0], pair[1])
		if got.value.Text != pair[0].Text+pair[1].Text {
			t.Errorf("%v", got)
		}
		apart("a joined text", got.value.Text)
	}
	if one, other := Str(x), Str(x); unsafe.StringData(one) == unsafe.StringData(other) {
		t.Error("two answers share memory")
	}
}
