package cond

import (
	"math"
	"strings"
	"testing"

	"retrace/api"
)

func i(n int64) api.Value { return api.Value{Kind: api.ValInt, Int: n} }

func b(n int64) api.Value { return api.Value{Kind: api.ValBool, Int: n} }

func x(s string) api.Value { return api.Value{Kind: api.ValText, Text: s} }

func r(n int64) api.Value { return api.Value{Kind: api.ValRef, Int: n} }

func v(name, typing string, value api.Value) api.Shown {
	return api.Shown{Var: api.Var{Name: name, Type: typing}, Value: value}
}

// The chapter's variables and arrays, and some more of them.
func someVars() []api.Shown {
	return []api.Shown{
		v("x", "int", i(7)), v("t", "text", x("ab")), v("a", "[int]", r(1)), v("g", "[[int]]", r(2)),
		v("yes", "bool", b(1)), v("no", "bool", b(0)), v("least", "int", i(math.MinInt64)), v("e", "text", x("")),
		v("w", "[text]", r(3)), v("f", "[bool]", r(4)), v("same", "[int]", r(1)), v("other", "[int]", r(5)), v("none", "[int]", r(0)),
		v("long", "text", x(strings.Repeat("z", api.MaxText))), v("raw", "text", x("\x00\xff\n")),
	}
}

func someArrays() [][]api.Value {
	return [][]api.Value{nil, {i(5), i(-6)}, {r(1), r(0)}, {x("one"), x("")}, {b(0), b(1)}, {i(5), i(-6)}}
}

// is checks what an expression is worth over the variables above, and whether it holds.
func is(t *testing.T, text string, want api.Value) {
	t.Helper()
	if got, errno := Eval(text, someVars(), someArrays()); got != want || errno != api.OK {
		t.Errorf("%q: %v, %d, want %v", text, got, errno, want)
	}
	if got := Holds(text, someVars(), someArrays()); got != (want == b(1)) {
		t.Errorf("%q holds: %v", text, got)
	}
}

// fails checks that an expression has no value over the variables above, and does not hold.
func fails(t *testing.T, text string, errno api.Errno) {
	t.Helper()
	if got, e := Eval(text, someVars(), someArrays()); got != (api.Value{}) || e != errno {
		t.Errorf("%q: %v, %d, want %d", text, got, e, errno)
	}
	if text != "" && Holds(text, someVars(), someArrays()) {
		t.Errorf("%q holds", text)
	}
}

// P19.1: the chapter's row, and other types and problems.
func TestCheck(t *testing.T) {
	vars := declared(someVars())
	for text, typing := range map[string]string{
		"a[x] + 1": "int", "x": "int", "t": "text", "g": "[[int]]", "g[0]": "[int]", "g[0][9]": "int", "t[0]": "int", "w[0]": "text", "w[0][0]": "int", "f[1]": "bool",
		"len(g)": "int", "len(t)": "int", "str(x)": "text", "str(yes) + t": "text", "-x": "int", "!yes": "bool", "x < 1 && g[0] == a || no": "bool", " ( x ) # x": "int",
		"1": "int", "true": "bool", `""`: "text", "x / 0": "int",
	} {
		if got, problem := Check(text, vars); got != typing || problem != (api.Problem{}) {
			t.Errorf("%q: %q, %v, want %q", text, got, problem, typing)
		}
	}
	for marked, errno := range map[string]api.Errno{
		"x +^": api.ErrToken, "^": api.ErrToken, "^)": api.ErrToken, "x ^x": api.ErrToken, "x ^= 1": api.ErrToken, "x < 1 ^< 2": api.ErrToken, "^@1": api.ErrToken, "^if": api.ErrToken,
		"x ^$": api.ErrByte, "x + ^01": api.ErrNumber, `^"a`: api.ErrText, "^" + strings.Repeat("n", 25): api.ErrName, strings.Repeat("-", 40) + "^x": api.ErrDeep,
		"x + ^t": api.ErrType, "^t - 1": api.ErrType, "a[^t]": api.ErrType, "^x[0]": api.ErrType, "!^x": api.ErrType, "len(^x)": api.ErrType, "str(^a)": api.ErrType, "a == ^g": api.ErrType, "yes && ^x": api.ErrType, "^yes < no": api.ErrType,
		"^f(x)": api.ErrExpr, "^new int[1]": api.ErrExpr, "len(^new int[x])": api.ErrExpr, "^main()": api.ErrExpr, "x + ^x(1)": api.ErrExpr,
		"^y": api.ErrUnseen, "x + ^y": api.ErrUnseen, "^X": api.ErrUnseen, "f(^y)": api.ErrUnseen, "true || ^y": api.ErrUnseen,
		// What parse finds comes ahead of what types finds.
		"y +^": api.ErrToken, "x + t ^$": api.ErrByte,
	} {
		at, text := strings.IndexByte(marked, '^'), strings.Replace(marked, "^", "", 1)
		if got, problem := Check(text, vars); got != "" || problem != (api.Problem{Code: errno, At: at}) {
			t.Errorf("%q: %q, %v, want %d at %d", text, got, problem, errno, at)
		}
		// P19.2: Eval tells the code alone, whatever the values are.
		fails(t, text, errno)
		wrong := someVars()
		for n := range wrong {
			wrong[n].Value = api.Value{Kind: 99}
		}
		if got, e := Eval(text, wrong, nil); got != (api.Value{}) || e != errno {
			t.Errorf("%q over wrong values: %v, %d, want %d", text, got, e, errno)
		}
	}
}

// P19.2, P19.3: the chapter's rows, and every form of expression.
func TestEval(t *testing.T) {
	for text, want := range map[string]api.Value{
		"a[1] * x": i(-42), "len(g) + len(g[0]) + len(t)": i(6), "g[0] == a": b(1), "str(x) + t": x("7ab"),
		"x == 0 && a[9] == 1": b(0), "x == 7 || a[9] == 1": b(1),
		"0": i(0), "9223372036854775807": i(math.MaxInt64), "true": b(1), "false": b(0), `""`: x(""), `"a\n\xff\"\\"`: x("a\n\xff\"\\"), "(((x)))": i(7),
		"x": i(7), "t": x("ab"), "a": r(1), "yes": b(1), "no": b(0), "least": i(math.MinInt64), "none": r(0), "raw": x("\x00\xff\n"),
		"-x": i(-7), "--x": i(7), "-least": i(math.MinInt64), "!yes": b(0), "!no": b(1), "!!yes": b(1),
		"x + 1": i(8), "x - 8": i(-1), "x * x": i(49), "x / 2": i(3), "-x / 2": i(-3), "x % 4": i(3), "-x % 4": i(-3), "x % -4": i(3), "least / -1": i(math.MinInt64), "least % -1": i(0), "least - 1": i(math.MaxInt64), "9223372036854775807 + 1": i(math.MinInt64), "least * 2": i(0),
		"x - 1 - 2": i(4), "x - (1 - 2)": i(8), "2 + 3 * x": i(23), "(2 + 3) * x": i(35), "-x + 1": i(-6), "-(x + 1)": i(-8), "100 / x / 2": i(7),
		"x == 7": b(1), "x != 7": b(0), "x < 7": b(0), "x <= 7": b(1), "x > 7": b(0), "x >= 7": b(1), "x < 8": b(1), "x > 6": b(1),
		`t + "c"`: x("abc"), "e + e": x(""), `t == "ab"`: b(1), `t != "ab"`: b(0), `t < "b"`: b(1), `t <= "a"`: b(0), `t > "a"`: b(1), `t >= "ab"`: b(1), `"" < raw`: b(1), "raw < t": b(1),
		"yes == no": b(0), "yes != no": b(1), "no == no": b(1), "a == same": b(1), "a != same": b(0), "a == other": b(0), "a != other": b(1), "g[1] == none": b(1), "g == g": b(1),
		"a[0]": i(5), "a[x - 6]": i(-6), "other[1]": i(-6), "g[0]": r(1), "g[1]": r(0), "g[0][1]": i(-6), "(g[0])[1]": i(-6), "w[0]": x("one"), "w[0][2]": i('e'), "f[0]": b(0), "f[1]": b(1), "g[a[0] - 5][len(a) - 1]": i(-6),
		"t[0]": i('a'), "t[1]": i('b'), "raw[0]": i(0), "raw[1]": i(255), `"xyz"[2]`: i('z'), "str(x)[0]": i('7'), "(t + t)[2]": i('a'),
		"len(a)": i(2), "len(none)": i(0), "len(g[1])": i(0), "len(t)": i(2), "len(e)": i(0), "len(long)": i(256), "len(w[0])": i(3), `len("\xff")`: i(1), "len(w)": i(2),
		"str(x)": x("7"), "str(-x)": x("-7"), "str(least)": x("-9223372036854775808"), "str(yes)": x("true"), "str(no)": x("false"), "str(t)": x("ab"), "str(raw)": x("\x00\xff\n"), "str(a[1] == 1)": x("false"), "str(str(x) + str(x))": x("77"),
		"yes && yes": b(1), "yes && no": b(0), "no && yes": b(0), "no && no": b(0), "yes || yes": b(1), "yes || no": b(1), "no || yes": b(1), "no || no": b(0), "no || no || yes": b(1), "yes && yes && no": b(0), "yes || no && no": b(1), "(yes || no) && no": b(0),
		"long + e": x(strings.Repeat("z", 256)), "e + long": x(strings.Repeat("z", 256)),
	} {
		is(t, text, want)
	}
}

// P19.2: traps, at every edge, wherever they are in an expression.
func TestTraps(t *testing.T) {
	for _, text := range []string{
		"a[2]", "x / (x - 7)", "t[x]", "g[1][0]",
		"x / 0", "x % 0", "0 / 0", "0 % 0", "least / 0", "a[-1]", "a[least]", "a[9223372036854775807]", "a[4294967296]", "none[0]", "g[2]", "g[0][2]", "g[-1][0]", "w[2]", "w[1][0]", "f[2]",
		"t[2]", "t[-1]", "e[0]", "t[least]", "t[4294967296]", `""[0]`, "str(x)[1]",
		`long + "x"`, `"x" + long`, "long + long", "str(x) + long",
		"-(x / 0)", "!(x / 0 == 1)", "len(g[2])", "len(w[2])", "str(x / 0)", "a[x / 0]", "t[x / 0]", "x / 0 + 1", "1 + x / 0", "(x / 0 == 1) == yes", "g[2][0]", "g[0][a[2]]",
		"x / 0 == 1 && no", "x / 0 == 1 || yes", "yes && x / 0 == 1", "no || x / 0 == 1", "yes && a[9] == 1", "no || a[9] == 1", "no && no || a[9] == 1", "(no || yes) && a[9] == 1",
	} {
		fails(t, text, api.ErrTrap)
	}
}

// P19.2: what && and || leave out is not worked out, but it is checked.
func TestLeftOut(t *testing.T) {
	for text, want := range map[string]api.Value{
		"no && x / 0 == 1": b(0), "yes || x / 0 == 1": b(1), "no && long + t == t": b(0), "yes || t[9] == 1": b(1), "no && g[9][9] == 1": b(0), "no && (x / 0 == 1) || yes": b(1), "yes || no && x / 0 == 1": b(1), "(yes || x / 0 == 1) && yes": b(1),
		"no && a[9] == 1 && x / 0 == 1": b(0), "!(yes && no) || x / 0 == 1": b(1),
	} {
		is(t, text, want)
	}
	fails(t, "no && y == 1", api.ErrUnseen)
	fails(t, "yes || x + t == 1", api.ErrType)
	fails(t, "yes || f(1)", api.ErrExpr)
	vars := append(someVars(), v("bad", "bool", i(1)), v("lost", "[int]", r(99)))
	for text, want := range map[string]api.Value{"no && bad": b(0), "yes || bad": b(1), "no && lost[0] == 1": b(0), "yes || len(lost) == 1": b(1)} {
		if got, errno := Eval(text, vars, someArrays()); got != want || errno != api.OK {
			t.Errorf("%q: %v, %d", text, got, errno)
		}
	}
}

// P19.2: the first error that is met, from left to right, ends it.
func TestFirstError(t *testing.T) {
	vars := append(someVars(), v("bad", "int", x("q")), v("lost", "[int]", r(99)), v("mixed", "[int]", r(6)), v("wrong", "text", i(1)), v("never", "bool", b(2)))
	arrays := append(someArrays(), []api.Value{i(0), b(1)})
	for text, errno := range map[string]api.Errno{
		"bad + x / 0": api.ErrArg, "x / 0 + bad": api.ErrTrap, "bad / 0": api.ErrArg, "-bad + x / 0": api.ErrArg, "-(x / 0) + bad": api.ErrTrap,
		"a[bad]": api.ErrArg, "lost[x / 0]": api.ErrArg, "lost[9]": api.ErrArg, "a[9 + bad]": api.ErrArg, "mixed[1]": api.ErrArg, "mixed[2]": api.ErrTrap, "mixed[-1]": api.ErrTrap, "mixed[1 / 0]": api.ErrTrap, "mixed[bad]": api.ErrArg, "mixed[1] + x / 0": api.ErrArg, "mixed[2] + bad": api.ErrTrap,
		"g[9][bad]": api.ErrTrap, "g[bad][9]": api.ErrArg, "wrong[9]": api.ErrArg, "t[9] + bad": api.ErrTrap, "t[bad]": api.ErrArg, "wrong[x / 0]": api.ErrArg,
		"len(wrong) / 0": api.ErrArg, "1 / 0 + len(lost)": api.ErrTrap, `long + "x" + wrong`: api.ErrTrap, `wrong + (long + "x")`: api.ErrArg, `long + wrong`: api.ErrArg,
		"never && x / 0 == 1": api.ErrArg, "never || yes": api.ErrArg, "x / 0 == 1 && never": api.ErrTrap, "yes && never": api.ErrArg, "no || never": api.ErrArg, "!never": api.ErrArg, "str(never)": api.ErrArg, "str(bad)": api.ErrArg, "never == yes": api.ErrArg, "yes == never": api.ErrArg,
		"lost == a": api.ErrArg, "a == lost": api.ErrArg, "lost": api.ErrArg, "len(lost)": api.ErrArg,
	} {
		if got, e := Eval(text, vars, arrays); got != (api.Value{}) || e != errno {
			t.Errorf("%q: %v, %d, want %d", text, got, e, errno)
		}
		if Holds(text, vars, arrays) {
			t.Errorf("%q holds", text)
		}
	}
	// What is not asked for does no harm.
	for text, want := range map[string]api.Value{"mixed[0] + x": i(7), "len(mixed)": i(2), "mixed == mixed": b(1), "x": i(7)} {
		if got, e := Eval(text, vars, arrays); got != want || e != api.OK {
			t.Errorf("%q: %v, %d, want %v", text, got, e, want)
		}
	}
}

// P19.2: of several variables of one name the last one counts, whatever the others are.
func TestLastOfAName(t *testing.T) {
	for _, row := range []struct {
		vars  []api.Shown
		want  api.Value
		errno api.Errno
	}{
		{[]api.Shown{v("x", "int", i(1)), v("x", "int", i(2))}, i(2), api.OK},
		{[]api.Shown{v("x", "int", i(1)), v("x", "text", x("q")), v("y", "int", i(3))}, x("q"), api.OK},
		{[]api.Shown{v("x", "void", x("q")), v("x", "", i(1)), v("x", "bool", b(1))}, b(1), api.OK},
		{[]api.Shown{v("x", "int", x("q")), v("x", "int", i(2))}, i(2), api.OK},
		{[]api.Shown{v("x", "int", i(1)), v("x", "int", x("q"))}, api.Value{}, api.ErrArg},
		{[]api.Shown{v("x", "text", i(1)), v("x", "int", x("q"))}, api.Value{}, api.ErrArg},
		{[]api.Shown{v("x", "int", i(1)), v("x", "void", i(2))}, api.Value{}, api.ErrType},
		{[]api.Shown{v("X", "int", i(1)), v(" x", "int", i(2)), v("xx", "int", i(1)), v("", "int", i(2))}, api.Value{}, api.ErrUnseen},
		{nil, api.Value{}, api.ErrUnseen},
	} {
		if got, errno := Eval("x", row.vars, nil); got != row.want || errno != row.errno {
			t.Errorf("%v: %v, %d, want %v, %d", row.vars, got, errno, row.want, row.errno)
		}
	}
	// Neither its slot nor its node counts.
	one, other := v("x", "int", i(1)), v("x", "int", i(2))
	one.Var.Slot, one.Var.Node, other.Var.Slot, other.Var.Node = 9, 9, -1, -1
	if got, errno := Eval("x", []api.Shown{one, other}, nil); got != i(2) || errno != api.OK {
		t.Errorf("%v, %d", got, errno)
	}
}

// P19.3: the chapter's row, and the empty text.
func TestHolds(t *testing.T) {
	for text, want := range map[string]bool{
		"": true, "x > 5": true, "x": false, "a[9] == 1": false, ")": false, " ": false, "#": false, "\n": false, "true": true, "false": false, "x < 5": false, "1": false, "t": false, "a": false,
		`"true"`: false, "x == 1": false, "y": false, "y || true": false, "true || y": false, "yes": true, "!no": true,
	} {
		if got := Holds(text, someVars(), someArrays()); got != want {
			t.Errorf("%q holds: %v", text, got)
		}
	}
	for _, vars := range [][]api.Shown{nil, {}, {v("x", "void", i(9))}, {v("", "", api.Value{})}} {
		if !Holds("", vars, nil) || !Holds("", vars, [][]api.Value{{r(-1)}}) {
			t.Errorf("the empty text does not hold over %v", vars)
		}
	}
	// An int 1 is no bool, nor is what only says to be one.
	for _, one := range []api.Shown{v("x", "int", i(1)), v("x", "bool", i(1)), v("x", "bool", b(2)), v("x", "bool", api.Value{Kind: api.ValBool, Int: 1, Text: "1"}), v("x", "bool", b(-1)), v("x", "bool", api.Value{})} {
		if Holds("x", []api.Shown{one}, nil) {
			t.Errorf("%v holds", one)
		}
	}
}

// P19.4: the chapter's rows, depths, and values and arrays of all kinds.
func TestDeep(t *testing.T) {
	zeros := make([]api.Value, 17)
	for n := range zeros {
		zeros[n] = i(0)
	}
	loop := [][]api.Value{{r(0), i(1)}}
	for n, row := range []struct {
		value  api.Value
		arrays [][]api.Value
		depth  int
		want   string
	}{
		{r(2), someArrays(), 2, "[[5, -6], []]"}, {r(2), someArrays(), 1, "[#1, #0]"}, {r(2), someArrays(), 0, "#2"}, {r(9), someArrays(), 3, "#9"}, {x("ab"), someArrays(), 3, `"ab"`},
		{r(1), [][]api.Value{nil, zeros}, 1, "[" + strings.Repeat("0, ", 16) + "..]"},
		{r(1), [][]api.Value{nil, zeros[:16]}, 1, "[" + strings.Repeat("0, ", 15) + "0]"},
		{r(1), [][]api.Value{nil, zeros[:15]}, 1, "[" + strings.Repeat("0, ", 14) + "0]"},
		{r(2), someArrays(), 3, "[[5, -6], []]"}, {r(2), someArrays(), math.MaxInt, "[[5, -6], []]"}, {r(2), someArrays(), -1, "#2"}, {r(2), someArrays(), math.MinInt, "#2"},
		{r(3), someArrays(), 1, `["one", ""]`}, {r(4), someArrays(), 1, "[false, true]"}, {r(0), someArrays(), 1, "[]"}, {r(0), someArrays(), 0, "#0"}, {r(0), nil, 1, "#0"}, {r(5), someArrays(), 1, "[5, -6]"}, {r(6), someArrays(), 1, "#6"},
		{r(math.MaxInt64), someArrays(), 4, "#9223372036854775807"}, {r(1 << 32), someArrays(), 4, "#4294967296"}, {r(-1), someArrays(), 4, "?"}, {r(math.MinInt64), someArrays(), 4, "?"}, {r(-1), nil, 0, "?"},
		{api.Value{Kind: api.ValRef, Int: 1, Text: "q"}, someArrays(), 4, "?"}, {api.Value{Kind: 5, Int: 1}, someArrays(), 4, "?"},
		{i(1), someArrays(), 4, "1"}, {b(1), someArrays(), 4, "true"}, {b(2), someArrays(), 4, "?"}, {api.Value{}, someArrays(), 4, "-"}, {x("a\n\"\xff"), nil, 4, `"a\n\"\xff"`}, {x(strings.Repeat("z", 257)), nil, 4, "?"},
		{r(0), loop, 1, "[#0, 1]"}, {r(0), loop, 2, "[[#0, 1], 1]"}, {r(0), loop, 3, "[[[#0, 1], 1], 1]"}, {r(0), loop, 4, "[[[[#0, 1], 1], 1], 1]"}, {r(0), loop, 5, "[[[[#0, 1], 1], 1], 1]"}, {r(0), loop, math.MaxInt, "[[[[#0, 1], 1], 1], 1]"},
		{r(0), [][]api.Value{{{}, b(2), r(1), r(-1), x("q"), i(math.MinInt64)}}, 2, `[-, ?, #1, ?, "q", -9223372036854775808]`},
		{r(0), [][]api.Value{{r(1), r(1)}, {i(1)}}, 2, "[[1], [1]]"}, {r(0), [][]api.Value{{r(1), r(2)}, {i(1)}, append([]api.Value{r(1)}, zeros...)}, 9, "[[1], [[1], " + strings.Repeat("0, ", 15) + "..]]"},
	} {
		if got := Deep(row.value, row.arrays, row.depth); got != row.want {
			t.Errorf("row %d: %s, want %s", n+1, got, row.want)
		}
	}
}

// P19.2: the chapter's row of wrong values.
func TestExampleWrong(t *testing.T) {
	for n, row := range []struct {
		text   string
		one    api.Shown
		arrays [][]api.Value
	}{
		{"x", v("x", "int", x("q")), nil}, {"x", v("x", "int", api.Value{}), nil}, {"a", v("a", "[int]", r(9)), someArrays()}, {"a[0]", v("a", "[int]", r(1)), [][]api.Value{nil, {b(1)}}},
	} {
		if got, errno := Eval(row.text, []api.Shown{row.one}, row.arrays); got != (api.Value{}) || errno != api.ErrArg {
			t.Errorf("row %d: %v, %d", n+1, got, errno)
		}
	}
}

// Every kind of expression has its form, but those that Check refuses.
func TestForms(t *testing.T) {
	for kind, form := range forms {
		want := api.Kind(kind) >= api.KInt && api.Kind(kind) != api.KCall && api.Kind(kind) != api.KNew
		if (form != nil) != want {
			t.Errorf("kind %d: %v", kind, form != nil)
		}
	}
}

// The package's error tells its number.
func TestFailure(t *testing.T) {
	if got := (failure{api.ErrTrap}).Error(); got != "no value: error 191" {
		t.Error(got)
	}
}
