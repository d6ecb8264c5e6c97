package types

import (
	"math/rand"
	"slices"
	"strings"
	"testing"

	"retrace/api"
	"retrace/parse"
)

func expression(t *testing.T, text string) api.Tree {
	t.Helper()
	e, problem := parse.Expr(text)
	if problem.Code != api.OK {
		t.Fatalf("the expression %q: %v", text, problem)
	}
	return e
}

// gives checks an expression's type over some variables.
func gives(t *testing.T, text string, vars []api.Var, typing string) {
	t.Helper()
	if got, problem := Of(expression(t, text), vars); got != typing || problem != (api.Problem{}) {
		t.Errorf("%q over %v: %q, %v, want %q", text, vars, got, problem, typing)
	}
}

// lacks checks that an expression has the problem at the mark ^, and no type.
func lacks(t *testing.T, marked string, vars []api.Var, errno api.Errno) {
	t.Helper()
	at := strings.IndexByte(marked, '^')
	text := strings.Replace(marked, "^", "", 1)
	if got, problem := Of(expression(t, text), vars); got != "" || problem != (api.Problem{Code: errno, At: at}) {
		t.Errorf("%q over %v: %q, %v, want %d at %d", text, vars, got, problem, errno, at)
	}
}

// isOf checks an expression against the chapter's words.
func isOf(t *testing.T, e api.Tree, vars []api.Var) (string, api.Problem) {
	t.Helper()
	wanted, problem := wantOf(e, vars)
	if got, p := Of(e, vars); got != wanted || p != problem {
		t.Fatalf("%q, %v, want %q, %v, over %v, of\n%s", got, p, wanted, problem, vars, dump(e))
	}
	return wanted, problem
}

// P7.3: the chapter's examples.
func TestOfExamples(t *testing.T) {
	a, b, x := api.Var{Name: "a", Type: "[int]"}, api.Var{Name: "b", Type: "int"}, api.Var{Name: "x", Type: "int"}
	gives(t, "a[1] + b", []api.Var{a, b}, "int")
	lacks(t, "^a[1] + b", []api.Var{b}, api.ErrUnseen)
	lacks(t, "a[1] + ^b", []api.Var{a, {Name: "b", Type: "bool"}}, api.ErrType)
	lacks(t, "^f()", nil, api.ErrExpr)
	lacks(t, "len(^new int[x])", []api.Var{x}, api.ErrExpr)
	lacks(t, "1 + ^f(2)", nil, api.ErrExpr)
}

// P7.3: names, and what cannot stand.
func TestOfNames(t *testing.T) {
	vars := []api.Var{
		{Name: "a", Type: "void"}, {Name: "a", Type: "text"}, {Name: "a", Type: "[int]", Slot: -7, Node: 1 << 40}, {Name: "b", Type: "int"},
		{Name: "t", Type: "text"}, {Name: "q", Type: "int"}, {Name: "q", Type: "void"}, {Name: "d", Type: "[[[[bool]]]]"}, {Name: "e"},
		{Name: "", Type: "int"}, {Name: "if", Type: "int"}, {Name: "b ", Type: "bool"}, {Name: "o", Type: "[[[[[int]]]]]"},
	}
	for text, typing := range map[string]string{
		"a": "[int]", "a[0]": "int", "len(a) < b && t == \"x\"": "bool", "t[b]": "int", "a == a": "bool", "str(b) + t": "text", "d": "[[[[bool]]]]", "d[0]": "[[[bool]]]", "d[b][b][b][b]": "bool",
		"1": "int", "true": "bool", `"a"`: "text", "-b": "int", "!true": "bool", "(b)": "int", "a[len(t)] * 2 != b": "bool",
	} {
		gives(t, text, vars, typing)
	}
	for marked, errno := range map[string]api.Errno{
		"^c": api.ErrUnseen, "b + ^c": api.ErrUnseen, "^c + b": api.ErrUnseen, "^B": api.ErrUnseen, "d[^c]": api.ErrUnseen,
		"^q": api.ErrType, "^e": api.ErrType, "^o": api.ErrType, "^o[0]": api.ErrType, "b == ^q": api.ErrType, "len(^e)": api.ErrType, "^q == q": api.ErrType,
		"a[1] + ^t": api.ErrType, "^a + a": api.ErrType, "t[^t]": api.ErrType, "^b[0]": api.ErrType, "str(^a)": api.ErrType, "len(^b)": api.ErrType, "!^b": api.ErrType, "-^t": api.ErrType, "true && ^b": api.ErrType,
		"f(^c)": api.ErrUnseen, "f(^q)": api.ErrType, "f(-^true, c)": api.ErrType, "^f(1, 2, 3)": api.ErrExpr, "^f(-1, !true)": api.ErrExpr, "f(^g(1), c)": api.ErrExpr, "^a(1)": api.ErrExpr, "-^f()": api.ErrExpr,
		"^new int[t]": api.ErrExpr, "^new int[b]": api.ErrExpr, "new int[^c]": api.ErrUnseen, "new int[-^t]": api.ErrType, "^new [[[[int]]]][1]": api.ErrExpr, "new int[^f()]": api.ErrExpr, "new int[^new int[1]]": api.ErrExpr, "b + ^new int[1] + c": api.ErrExpr,
		"^c + f()": api.ErrUnseen, "^f() + c": api.ErrExpr, "b[^c]": api.ErrUnseen, "t + (b + ^c)": api.ErrUnseen, "b + (t + ^b)": api.ErrType,
	} {
		lacks(t, marked, vars, errno)
	}
	lacks(t, "^a", nil, api.ErrUnseen)
	lacks(t, "^a", []api.Var{}, api.ErrUnseen)
	// The last one of a name counts, be it a type or not.
	gives(t, "a", []api.Var{{Name: "a", Type: "x"}, {Name: "a", Type: "int"}, {Name: "b", Type: "bool"}}, "int")
	gives(t, "a", []api.Var{{Name: "a", Type: "bool"}, {Name: "a", Type: "text"}}, "text")
	lacks(t, "^a", []api.Var{{Name: "a", Type: "int"}, {Name: "a", Type: ""}}, api.ErrType)
	for _, no := range notTypes {
		lacks(t, "^a", []api.Var{{Name: "a", Type: "int"}, {Name: "a", Type: no}}, api.ErrType)
	}
	for _, typing := range everyType {
		gives(t, "a", []api.Var{{Name: "a", Type: typing}}, typing)
	}
}

// P7.3: what is no tree, or a program's.
func TestOfNoExpression(t *testing.T) {
	p, _ := named(t, "fn main() { print 1; }")
	vars := []api.Var{{Name: "x", Type: "int"}}
	for what, nodes := range map[string][]api.Node{
		"a program":           p.Nodes,
		"an empty program":    {{Kind: api.KProgram, At: 5, Size: 1}},
		"none":                nil,
		"an empty list":       {},
		"a Size too great":    {{Kind: api.KInt, At: 5, Size: 2}},
		"a node too many":     {{Kind: api.KInt, At: 5, Size: 1}, {Kind: api.KInt, At: 5, Size: 1}},
		"a negative At":       {{Kind: api.KName, Name: "x", At: -1, Size: 1}},
		"a block":             {{Kind: api.KBlock, At: 5, Size: 1}},
		"a statement":         {{Kind: api.KPrint, At: 5, Size: 2}, {Kind: api.KInt, Size: 1}},
		"a len of nothing":    {{Kind: api.KLen, At: 5, Size: 1}},
		"no operator":         {{Kind: api.KBinary, Op: 99, Size: 3}, {Kind: api.KInt, Size: 1}, {Kind: api.KInt, Size: 1}},
		"an operator of one":  {{Kind: api.KBinary, Op: api.OpNeg, Size: 3}, {Kind: api.KInt, Size: 1}, {Kind: api.KInt, Size: 1}},
		"a name with a blank": {{Kind: api.KName, Name: "x ", At: 5, Size: 1}},
		"kind 0":              {{At: 5, Size: 1}},
		"kind 31":             {{Kind: 31, At: 5, Size: 1}},
	} {
		if got, problem := Of(api.Tree{Nodes: nodes}, vars); got != "" || problem != (api.Problem{Code: api.ErrTree}) {
			t.Errorf("%s: %q, %v", what, got, problem)
		}
	}
}

// P7.3: every operator over variables of all types, one without any, and a call.
func TestOfEveryOperand(t *testing.T) {
	vars := []api.Var{{Name: "none", Type: ""}, {Name: "void", Type: "void"}}
	names := []string{"none", "unseen", "f(void)"}
	for _, typing := range everyType {
		vars = append(vars, api.Var{Name: nameOf(typing), Type: typing})
		names = append(names, nameOf(typing))
	}
	taken := 0
	for _, a := range names {
		forms := []string{"A", "-A", "!A", "len(A)", "str(A)", "new int[A]", "f(A)"}
		for _, b := range names {
			for _, op := range []string{"+", "-", "*", "/", "%", "==", "!=", "<", "<=", ">", ">=", "&&", "||"} {
				forms = append(forms, "A "+op+" "+b)
			}
			forms = append(forms, "A["+b+"]")
		}
		for _, form := range forms {
			e := expression(t, strings.ReplaceAll(form, "A", a))
			if _, problem := isOf(t, e, vars); problem.Code == api.OK {
				taken++
			}
		}
	}
	if wanted := 15 + 1 + 1 + 13 + 3 + 2 + 4*1 + 15*2 + 2*4 + 2 + 13; taken != wanted {
		t.Errorf("%d are taken, want %d", taken, wanted)
	}
}

// P7.3: grown expressions over grown variables.
func TestOfGrown(t *testing.T) {
	codes := map[api.Errno]int{}
	for i := range 60000 {
		g := &grower{Rand: rand.New(rand.NewSource(int64(i))), wild: []int{0, 20, 60}[i%3], alone: i%5 > 0}
		vars := g.variables()
		g.scopes = [][]api.Var{vars}
		if !g.alone {
			g.funcs = []signature{{"f", []string{"int"}, "int"}}
		}
		e := g.expr(g.typing(), 4).tree()
		if i%2 == 0 {
			// Some of the names mean nothing any more, or something else.
			vars = slices.DeleteFunc(slices.Clone(vars), func(api.Var) bool { return g.Intn(6) == 0 })
			g.Shuffle(len(vars), func(i, j int) { vars[i], vars[j] = vars[j], vars[i] })
		}
		typing, problem := isOf(t, e, vars)
		if (typing == "") != (problem.Code != api.OK) {
			t.Fatalf("%q, %v", typing, problem)
		}
		codes[problem.Code]++
	}
	for _, errno := range []api.Errno{api.OK, api.ErrUnseen, api.ErrType, api.ErrExpr} {
		if codes[errno] < 500 {
			t.Errorf("error %d was reached %d times only: %v", errno, codes[errno], codes)
		}
	}
}

func (g *grower) variables() []api.Var {
	var vars []api.Var
	for range g.Intn(9) {
		typing := g.typing()
		if g.isWild() {
			typing = said(g.Rand)
		}
		vars = append(vars, api.Var{Name: string(rune('a' + g.Intn(6))), Type: typing, Slot: g.Intn(5) - 2})
	}
	return vars
}
