package parse

import (
	"errors"
	"math/rand"
	"reflect"
	"slices"
	"strconv"
	"strings"
	"testing"
	"unsafe"

	"retrace/api"
	"retrace/lex"
	"retrace/tree"
)

type face struct {
	name string
	goal string
	call func(string) (api.Tree, api.Problem)
}

var (
	programs = face{"Program", "program", Program}
	exprs    = face{"Expr", "expr", Expr}
)

func rep(s string, n int) string {
	return strings.Repeat(s, n)
}

func cut(text string) string {
	if len(text) > 300 {
		return text[:300] + ".."
	}
	return text
}

// takes checks that a text is taken, and that its tree has the dump (lines parted by a semicolon, a dot for each depth).
func (f face) takes(t *testing.T, text, want string) {
	t.Helper()
	got, problem := f.call(text)
	if problem != (api.Problem{}) {
		t.Errorf("%s(%q): %v, want a tree", f.name, cut(text), problem)
		return
	}
	dump, errno := tree.Dump(got)
	told := strings.ReplaceAll(strings.ReplaceAll(strings.TrimSuffix(dump, "\n"), "  ", "."), "\n", "; ")
	if errno != api.OK || told != want {
		t.Errorf("%s(%q):\n%s\nwant\n%s", f.name, cut(text), told, want)
	}
}

// refuses checks that a text is refused, and that nothing else is answered.
func (f face) refuses(t *testing.T, text string, code api.Errno, at int) {
	t.Helper()
	got, problem := f.call(text)
	if problem != (api.Problem{Code: code, At: at}) || got.Nodes != nil {
		t.Errorf("%s(%q): %d nodes, %v, want %v at %d", f.name, cut(text), len(got.Nodes), problem, code, at)
	}
}

// accepts checks that a text is taken, with as many nodes.
func (f face) accepts(t *testing.T, text string, nodes int) {
	t.Helper()
	got, problem := f.call(text)
	if problem != (api.Problem{}) || len(got.Nodes) != nodes || tree.Valid(got) != api.OK {
		t.Errorf("%s(%q): %d nodes, %v, want %d", f.name, cut(text), len(got.Nodes), problem, nodes)
	}
}

// P4.1: the chapter's examples, and one program with every kind of statement.
func TestExamplesOfProgram(t *testing.T) {
	programs.takes(t, "", "program @0")
	programs.takes(t, " # nothing", "program @10")
	programs.takes(t, "fn main() { }", "program @0; .fn main - @0; ..block @10")
	programs.takes(t, "fn f(a: [int]): int { return a[0]; }", "program @0; .fn f int @0; ..param a [int] @5; ..block @20; ...return 0 @22; ....index @29; .....name a @29; .....int 0 @31")
	for text, at := range map[string]int{
		"fn": 2, "fn main(": 8, "x": 0, "fn main() { } }": 14,
		"fn main() { x; }": 13, "fn main() { f()[0] = 1; }": 15, "fn main() { a: print 1; }": 15,
		"fn main() { print 1 < 2 < 3; }": 24, "fn main() { @0; }": 13, "fn main() { return @40001; }": 20,
	} {
		programs.refuses(t, text, api.ErrToken, at)
	}
	programs.refuses(t, "fn main() { $ ) }", api.ErrByte, 12)
}

func TestEveryStatement(t *testing.T) {
	for text, want := range map[string]string{
		"var v: [ [ int ] ] = 1;":             "...var v [[int]] @7; ....int 1 @28",
		"p = 1;":                              "...assign @7; ....name p @7; ....int 1 @11",
		"p[1][q] = 2;":                        "...assign @7; ....index @7; .....index @7; ......name p @7; ......int 1 @9; .....name q @12; ....int 2 @17",
		"if a { }":                            "...if @7; ....name a @10; ....block @12",
		"if a { } else { }":                   "...if @7; ....name a @10; ....block @12; ....block @21",
		"if a { } else if b { } else { }":     "...if @7; ....name a @10; ....block @12; ....if @21; .....name b @24; .....block @26; .....block @35",
		"if a { if b { } else { } }":          "...if @7; ....name a @10; ....block @12; .....if @14; ......name b @17; ......block @19; ......block @28",
		"while true { }":                      "...while - @7; ....bool 1 @13; ....block @18",
		"out : while false { }":               "...while out @7; ....bool 0 @19; ....block @25",
		"for i = 1 to n { }":                  "...for - i @7; ....int 1 @15; ....name n @20; ....block @22",
		"out: for i = 1 to n { }":             "...for out i @7; ....int 1 @20; ....name n @25; ....block @27",
		"break; break out;":                   "...break - @7; ...break out @14",
		"continue; continue out;":             "...continue - @7; ...continue out @17",
		"return;":                             "...return 0 @7",
		"return @1;":                          "...return 1 @7",
		"return 1;":                           "...return 0 @7; ....int 1 @14",
		"return @40000 1;":                    "...return 40000 @7; ....int 1 @21",
		"print 1, \"t\";":                     "...print @7; ....int 1 @13; ....text \"t\" @16",
		"read p; read p[0];":                  "...read @7; ....name p @12; ...read @15; ....index @20; .....name p @20; .....int 0 @22",
		"f(); f(1, f());":                     "...do @7; ....call f @7; ...do @12; ....call f @12; .....int 1 @14; .....call f @17",
		"@1; @40000 x;":                       "...hook 1 - @7; ...hook 40000 x @11",
		"{ } { { } }":                         "...block @7; ...block @11; ....block @13",
		"print \";\"; print \"}\" == \"fn\";": "...print @7; ....text \";\" @13; ...print @18; ....binary == @24; .....text \"}\" @24; .....text \"fn\" @31",
	} {
		programs.takes(t, "fn m(){"+text+"}", "program @0; .fn m - @0; ..block @6; "+want)
	}
}

// P4.2: the chapter's examples, and every kind of expression.
func TestExamplesOfExpr(t *testing.T) {
	exprs.takes(t, "a + b * -c", "binary + @0; .name a @0; .binary * @4; ..name b @4; ..unary - @8; ...name c @9")
	exprs.takes(t, "a - b - c", "binary - @0; .binary - @0; ..name a @0; ..name b @4; .name c @8")
	exprs.takes(t, "((a) + b)", "binary + @1; .name a @2; .name b @7")
	exprs.takes(t, "new [int][n][0]", "index @0; .new [int] @0; ..name n @10; .int 0 @13")
	exprs.takes(t, `len("a")`, `len @0; .text "a" @4`)
	exprs.takes(t, "f(x, 1)[2]", "index @0; .call f @0; ..name x @2; ..int 1 @5; .int 2 @8")
	for text, at := range map[string]int{"": 0, "1 2": 2, "a = 1": 2, "f(,)": 2, "- ": 2} {
		exprs.refuses(t, text, api.ErrToken, at)
	}
	exprs.refuses(t, rep("-", 40)+"x", api.ErrDeep, 40)
	exprs.accepts(t, rep("-", 39)+"x", 40)
	exprs.takes(t, rep("(", 200)+"x"+rep(")", 200), "name x @200")
	exprs.refuses(t, rep("(", 201)+"x"+rep(")", 201), api.ErrDeep, 200)
}

func TestEveryExpression(t *testing.T) {
	for text, want := range map[string]string{
		"0":                      "int 0 @0",
		"9223372036854775807":    "int 9223372036854775807 @0",
		"true":                   "bool 1 @0",
		"false":                  "bool 0 @0",
		`"\x00("`:                `text "\x00(" @0`,
		"x":                      "name x @0",
		"f()":                    "call f @0",
		"str(1)":                 "str @0; .int 1 @4",
		"new text[1]":            "new text @0; .int 1 @9",
		"new [[bool]][1]":        "new [[bool]] @0; .int 1 @13",
		"new int[1][2]":          "index @0; .new int @0; ..int 1 @8; .int 2 @11",
		"(x)[0]":                 "index @0; .name x @1; .int 0 @4",
		"((x)[0])":               "index @1; .name x @2; .int 0 @5",
		"\"t\"[0]":               `index @0; .text "t" @0; .int 0 @4`,
		"-!-x":                   "unary - @0; .unary ! @1; ..unary - @2; ...name x @3",
		"-x[0]":                  "unary - @0; .index @1; ..name x @1; ..int 0 @3",
		"(-x)[0]":                "index @0; .unary - @1; ..name x @2; .int 0 @5",
		"-(x + y)":               "unary - @0; .binary + @2; ..name x @2; ..name y @6",
		"- -x - -y":              "binary - @0; .unary - @0; ..unary - @2; ...name x @3; .unary - @7; ..name y @8",
		"a || b && c":            "binary || @0; .name a @0; .binary && @5; ..name b @5; ..name c @10",
		"a && b || c":            "binary || @0; .binary && @0; ..name a @0; ..name b @5; .name c @10",
		"a && b < c":             "binary && @0; .name a @0; .binary < @5; ..name b @5; ..name c @9",
		"a < b && c":             "binary && @0; .binary < @0; ..name a @0; ..name b @4; .name c @9",
		"a + b >= c * d":         "binary >= @0; .binary + @0; ..name a @0; ..name b @4; .binary * @9; ..name c @9; ..name d @13",
		"(a < b) < c":            "binary < @0; .binary < @1; ..name a @1; ..name b @5; .name c @10",
		"a < (b < c)":            "binary < @0; .name a @0; .binary < @5; ..name b @5; ..name c @9",
		"a - (b - c)":            "binary - @0; .name a @0; .binary - @5; ..name b @5; ..name c @9",
		"a / b % c * d":          "binary * @0; .binary % @0; ..binary / @0; ...name a @0; ...name b @4; ..name c @8; .name d @12",
		"a == b || c != d":       "binary || @0; .binary == @0; ..name a @0; ..name b @5; .binary != @10; ..name c @10; ..name d @15",
		"a > b && c <= d":        "binary && @0; .binary > @0; ..name a @0; ..name b @4; .binary <= @9; ..name c @9; ..name d @14",
		"((a) * (b)) + ((c))":    "binary + @0; .binary * @1; ..name a @2; ..name b @8; .name c @16",
		" # gap\n ( x ) # end )": "name x @10",
	} {
		exprs.takes(t, text, want)
	}
}

// The tokens that stand for all others, one or more of each kind that the grammar tells apart.
const (
	everyToken = `fn var if else while for to break continue return print read true false int bool text new len str ( ) { } [ ] , ; : = == != < <= > >= + - * / % ! && || @ x 0 1 40000 40001 "t" ";"`
	fewTokens  = `fn var if else for to break return print read true int new len ( ) { } [ ] , ; : = < + * - && || @ x 1`
)

// meets checks what a call answers to a beginning with each token behind it, against what the grammar wants there; it gives those that it wants.
func (f face) meets(t *testing.T, c *chart, begun string, tokens []string) []string {
	t.Helper()
	wanted, end := c.wanted()
	_, problem := f.call(begun)
	if refused := problem == (api.Problem{Code: api.ErrToken, At: len(begun)}); refused == end || !refused && problem.Code == api.ErrToken {
		t.Fatalf("%s(%q): %v, but it may end there: %v", f.name, begun, problem, end)
	}
	var fitting []string
	for _, token := range tokens {
		fit := slices.ContainsFunc(symbolsOf(token), func(s string) bool { return wanted[s] })
		if fit {
			fitting = append(fitting, token)
		}
		text := begun + " " + token
		_, problem := f.call(text)
		if refused := problem == (api.Problem{Code: api.ErrToken, At: len(begun) + 1}); refused == fit {
			t.Fatalf("%s(%q): %v, but the last token fits: %v", f.name, text, problem, fit)
		}
	}
	return fitting
}

// everyWay goes over all beginnings that the grammar allows, by the tokens, so many tokens on.
func (f face) everyWay(t *testing.T, c *chart, begun string, tokens []string, left int) {
	for _, token := range f.meets(t, c, begun, tokens) {
		if left > 0 {
			c.push(token)
			f.everyWay(t, c, begun+" "+token, tokens, left-1)
			c.pop()
		}
	}
}

func (f face) chartOf(g *grammar, begun string) *chart {
	c := newChart(g, f.goal)
	for _, token := range strings.Fields(begun) {
		c.push(token)
	}
	return c
}

// P4.1, P4.2: the first token that cannot stand there, at all short beginnings.
func TestTokensThatFit(t *testing.T) {
	g := readGrammar()
	every, few := strings.Fields(everyToken), strings.Fields(fewTokens)
	exprs.everyWay(t, exprs.chartOf(g, ""), "", every, 3)
	exprs.everyWay(t, exprs.chartOf(g, ""), "", strings.Fields("x ( ) [ ] , < + * && || - new int"), 6)
	programs.everyWay(t, programs.chartOf(g, ""), "", few, 7)
	for _, begun := range []string{
		"fn x ( ) {",
		"fn x ( x : int ) {",
		"fn x ( ) : [ int ] {",
		"fn x ( ) { {",
		"fn x ( ) { if x { }",
		"fn x ( ) { if x { } else if 1 { }",
		"fn x ( ) { x : for x = 1 to",
		"fn x ( ) { while x { }",
		"fn x ( ) { return @ 1 x",
		"fn x ( ) { x [ 1 ]",
		"fn x ( ) { x ( 1 )",
		"fn x ( ) { } fn",
	} {
		programs.everyWay(t, programs.chartOf(g, begun), begun, every, 1)
		programs.everyWay(t, programs.chartOf(g, begun), begun, few, 2)
	}
}

// P4.1, P4.2: the same along long ways, taken by chance.
func TestTokensThatFitFarOn(t *testing.T) {
	g := readGrammar()
	every := strings.Fields(everyToken)
	rng := rand.New(rand.NewSource(4))
	for _, f := range []face{programs, exprs} {
		for range 150 {
			c := f.chartOf(g, "")
			begun := ""
			for range 40 {
				fitting := f.meets(t, c, begun, every)
				if len(fitting) == 0 {
					break
				}
				token := fitting[rng.Intn(len(fitting))]
				c.push(token)
				begun += " " + token
			}
		}
	}
}

// written gives a text of a tree, and what is to be answered to it.
func written(k *knot, w *writer) (text string, want api.Tree, problem api.Problem) {
	if k.Kind == api.KProgram {
		w.program(k)
	} else {
		w.expr(k, 1)
		if w.gaps {
			w.text.WriteString(" # end")
		}
	}
	text = w.text.String()
	all := k.inOrder()
	problem = firstOpen(text)
	if problem.Code == api.OK {
		problem = firstExcess(all)
	}
	if problem.Code == api.OK {
		want = api.Tree{Nodes: nodesOf(all)}
	}
	return text, want, problem
}

func checkWritten(t *testing.T, f face, k *knot, w *writer) api.Problem {
	t.Helper()
	text, want, problem := written(k, w)
	got, told := f.call(text)
	if told != problem || !slices.Equal(got.Nodes, want.Nodes) {
		t.Fatalf("%s(%q):\n%v, %v\nwant\n%v, %v", f.name, text, got, told, want, problem)
	}
	if problem.Code != api.OK {
		return problem
	}
	if tree.Valid(got) != api.OK || len(got.Nodes) > api.MaxTree {
		t.Fatalf("%s(%q): no tree: %v", f.name, text, got)
	}
	checkAts(t, text, got)
	return problem
}

// checkAts: P4.3: the Ats never fall, and each is a token's.
func checkAts(t *testing.T, text string, got api.Tree) {
	t.Helper()
	tokens, _ := lex.Scan(text)
	ats := map[int]bool{}
	for _, token := range tokens {
		ats[token.At] = true
	}
	last := 0
	for n, node := range got.Nodes {
		if !ats[node.At] || node.At < last {
			t.Fatalf("%q: the At of node %d: %d", text, n, node.At)
		}
		last = node.At
	}
}

// P4.1 to P4.4: every tree that is written is read again, with the Ats of its tokens.
func TestTreesReadBack(t *testing.T) {
	rng := rand.New(rand.NewSource(41))
	g := &grower{Rand: rng}
	for i := range 6000 {
		w := &writer{Rand: rng, gaps: i%2 == 0, brackets: i % 3 * 2}
		checkWritten(t, programs, g.program(), w)
		w = &writer{Rand: rng, gaps: i%2 == 0, brackets: i % 3 * 2}
		checkWritten(t, exprs, g.expr(1+i%6), w)
	}
}

// P4.1, P4.2: trees about the limits: the first node that is beyond one is told.
func TestTreesAboutTheLimits(t *testing.T) {
	rng := rand.New(rand.NewSource(42))
	met := map[api.Errno]int{}
	for i := range 6000 {
		g := &grower{Rand: rng, reach: 1 + i%12}
		w := &writer{Rand: rng, gaps: i%4 == 0, brackets: i % 3}
		met[checkWritten(t, programs, g.program(), w).Code]++
		w = &writer{Rand: rng, gaps: i%4 == 0, brackets: i % 5}
		met[checkWritten(t, exprs, g.expr(1+i%4), w).Code]++
	}
	for _, code := range []api.Errno{api.OK, api.ErrSize, api.ErrDeep} {
		if met[code] < 150 {
			t.Errorf("the trees met %v too seldom: %v", code, met)
		}
	}
}

// P4.1, P4.2: lex's problem comes first, then the open brackets, then the tokens, then the limits.
func TestOrderOfProblems(t *testing.T) {
	open := rep("(", 201)
	for _, f := range []face{programs, exprs} {
		f.refuses(t, ") "+open+" 01", api.ErrNumber, 204)
		f.refuses(t, open+" \"", api.ErrText, 202)
		f.refuses(t, ") "+open, api.ErrDeep, 202)
		f.refuses(t, rep("x", api.MaxScan)+"x", api.ErrSize, api.MaxScan)
		f.refuses(t, rep(" ", api.MaxScan+1), api.ErrSize, api.MaxScan)
		f.refuses(t, rep(" ", api.MaxScan-1)+")", api.ErrToken, api.MaxScan-1)
	}
	programs.refuses(t, "fn m() { print 1"+rep(", 1", 16)+" }", api.ErrToken, 65)
	programs.refuses(t, "fn m() { "+rep("{", 41)+rep("}", 42)+" fn", api.ErrToken, 9+41+42+3)
	exprs.refuses(t, rep("-", 41)+"x x", api.ErrToken, 43)
	exprs.refuses(t, rep("-", 41), api.ErrToken, 41)
	exprs.refuses(t, "new "+rep("[", 5)+"int"+rep("]", 4)+"[1]", api.ErrToken, 16)
	programs.takes(t, rep(" ", api.MaxScan), "program @4194304")
}

// P4.1, P4.2: brackets that stand open, whichever they are and whether they match or not.
func TestOpenBrackets(t *testing.T) {
	mixed := rep("([{", 66) + "(["
	for _, f := range []face{programs, exprs} {
		f.refuses(t, "+"+mixed+"{", api.ErrDeep, 201)
		f.refuses(t, "+"+mixed+"[", api.ErrDeep, 201)
		f.refuses(t, "+"+mixed+"(", api.ErrDeep, 201)
		f.refuses(t, "*"+mixed, api.ErrToken, 0)
		f.refuses(t, "*"+mixed+"x)}{]}((((", api.ErrDeep, 210)
		f.refuses(t, "*"+mixed+"x)]}(((", api.ErrToken, 0)
		f.refuses(t, "*"+rep(")]}", 9)+mixed+"x (", api.ErrDeep, 230)
		f.refuses(t, "*"+rep("(", 3)+rep("]", 5)+mixed, api.ErrToken, 0)
		f.refuses(t, "*"+mixed+`"(" # (`, api.ErrToken, 0)
	}
	rng := rand.New(rand.NewSource(43))
	for range 2000 {
		text := rep("(", 190)
		for range 60 {
			text += []string{"(", "[", "{", ")", "]", "}", "x", `"("`, "[", "{"}[rng.Intn(10)]
		}
		_, problem := Expr(text)
		if want := firstOpen(text); want.Code != api.OK && problem != want || want.Code == api.OK && problem.Code != api.ErrToken {
			t.Fatalf("Expr(%q): %v, want %v", text, problem, want)
		}
	}
}

// P4.1: each limit, and one more.
func TestLimitsOfPrograms(t *testing.T) {
	body := func(s string) string { return "fn m() { " + s + " }" }
	params := func(n int, typing string) string {
		return "fn f(a: int" + rep(", a: int", n-1) + ")" + typing + " { }"
	}
	programs.accepts(t, params(8, ""), 11)
	programs.refuses(t, params(9, ""), api.ErrSize, 0)
	programs.refuses(t, " "+params(9, ": [[[[[int]]]]]"), api.ErrSize, 1)
	programs.accepts(t, params(8, ": [[[[int]]]]"), 11)
	programs.refuses(t, params(8, ": [[[[[int]]]]]"), api.ErrDeep, 0)
	programs.refuses(t, "fn f(a: int, b: [[[[[text]]]]]) { }", api.ErrDeep, 13)
	programs.refuses(t, body("var v: [[[[[bool]]]]] = 1;"), api.ErrDeep, 9)
	programs.accepts(t, body("print 1"+rep(", 1", 15)+";"), 20)
	programs.refuses(t, body("print 1"+rep(", 1", 16)+";"), api.ErrSize, 9)
	programs.refuses(t, body("print new [[[[[int]]]]][1]"+rep(", 1", 16)+";"), api.ErrSize, 9)
	programs.accepts(t, "fn m() "+rep("{", 40)+rep("}", 40), 42)
	programs.refuses(t, "fn m() "+rep("{", 41)+rep("}", 41), api.ErrDeep, 47)
	programs.refuses(t, "fn m() "+rep("{", 41)+"print 1"+rep(", 1", 16)+";"+rep("}", 41), api.ErrDeep, 47)
	programs.refuses(t, "fn m() "+rep("{", 40)+"print 1"+rep(", 1", 16)+";"+rep("}", 40), api.ErrSize, 47)
	programs.accepts(t, "fn m() "+rep("{while a", 39)+"{}"+rep("}", 39), 2+39*3+1)
	programs.refuses(t, "fn m() "+rep("{while a", 40)+"{}"+rep("}", 40), api.ErrDeep, 7+40*8)
	programs.accepts(t, body("if a { }"+rep("else if a { }", 38)), 3+39*3)
	programs.refuses(t, body("if a { }"+rep("else if a { }", 39)), api.ErrDeep, 9+8+38*13+10)
	programs.accepts(t, body("if a { }"+rep("else if a { }", 38)+"else { }"), 3+39*3+1)
	programs.refuses(t, body("if a { }"+rep("else if a { }", 38)+"else { { } }"), api.ErrDeep, 9+8+38*13+7)
	programs.accepts(t, body("if a { if b { } else { } }"), 10)
	programs.accepts(t, body("print "+rep("-", 39)+"x;"), 44)
	programs.refuses(t, body("print "+rep("-", 40)+"x;"), api.ErrDeep, 55)
	programs.accepts(t, rep("fn m() { print 1"+rep("+1", 39)+"; }", 3), 1+3*82)
	programs.refuses(t, body("a"+rep("[0]", 40)+" = 1;"), api.ErrDeep, 9)
	programs.accepts(t, body("a"+rep("[0]", 39)+" = 1;"), 3+1+79+1)
}

// P4.1, P4.2: the number of nodes.
func TestNumbersOfNodes(t *testing.T) {
	most := api.MaxTree
	exprs.accepts(t, "f(1"+rep(",1", most-2)+")", most)
	exprs.refuses(t, "f(1"+rep(",1", most-1)+")", api.ErrSize, 2*most)
	exprs.refuses(t, "f(1"+rep(",1", most-2)+","+rep("-", 50)+"x)", api.ErrSize, 2*most)
	exprs.refuses(t, "f(1"+rep(",1", most-42)+","+rep("-", 39)+"x)", api.ErrDeep, 2*(most-41)+2+39)
	exprs.refuses(t, "f(1"+rep(",1", most-42)+","+rep("-", 38)+"x,1,1)", api.ErrSize, 2*(most-41)+2+38+4)
	exprs.refuses(t, "f(1"+rep(",1", 3*most)+")", api.ErrSize, 2*most)
	exprs.refuses(t, "f(1"+rep(",1", 3*most)+"+1)", api.ErrSize, 2*most)

	// The function that begins behind these is the last node, or the first one too many.
	before := rep("fn f(){}", (most-2)/2)
	at := len(before)
	programs.accepts(t, before, most-1)
	programs.refuses(t, before+"fn f(){}", api.ErrSize, at+6)
	programs.refuses(t, before+"fn f(a:int){}", api.ErrSize, at+5)
	programs.refuses(t, before+"fn f(a:int"+rep(",a:int", 7)+"){}", api.ErrSize, at+5)
	programs.refuses(t, before+"fn f(a:int"+rep(",a:int", 8)+"){}", api.ErrSize, at)
	programs.refuses(t, before+"fn f():[[[[[int]]]]]{}", api.ErrDeep, at)
	programs.refuses(t, before+"fn f(a:[[[[[int]]]]]){}", api.ErrSize, at+5)

	blocks := "fn f(){" + rep("{}", most-4)
	at = len(blocks)
	programs.accepts(t, blocks+"return;}", most)
	programs.refuses(t, blocks+"print 1;}", api.ErrSize, at+6)
	programs.refuses(t, blocks+"print 1"+rep(",1", 16)+";}", api.ErrSize, at)
	programs.refuses(t, blocks+"@1;@2;@3;}", api.ErrSize, at+3)
	programs.refuses(t, blocks+"{print 1"+rep(",1", 16)+";}}", api.ErrSize, at+1)
}

// P4.6: long chains, which nest as deep as the text is long, end too.
func TestLongChains(t *testing.T) {
	if testing.Short() {
		t.Skip("each of these texts is as long as one may be")
	}
	n := api.MaxScan
	exprs.refuses(t, rep("-", n-1)+"x", api.ErrDeep, 40)
	exprs.refuses(t, rep("!", n), api.ErrToken, n)
	exprs.refuses(t, rep("1+", n/2-1)+"1", api.ErrDeep, 0)
	exprs.refuses(t, "a"+rep("[0]", n/3-1), api.ErrDeep, 0)
	exprs.refuses(t, rep("1<1&&", n/5-1)+"1", api.ErrDeep, 0)
	programs.refuses(t, "fn m(){if a{}"+rep("else if a{}", n/11-2)+"}", api.ErrDeep, 13+38*11+9)
	programs.refuses(t, "fn m(){if a{}"+rep("else if a{}", n/11-2), api.ErrToken, 13+11*(n/11-2))
	programs.refuses(t, rep("fn m(){}", n/8), api.ErrSize, 19999*8+6)
	programs.refuses(t, "fn m("+rep("a:int,", n/6-2)+"a:int){}", api.ErrSize, 0)
}

// P4.3: gaps, and brackets around whole expressions, make no difference but to the Ats.
func TestGapsAndBracketsMakeNoDifference(t *testing.T) {
	rng := rand.New(rand.NewSource(44))
	g := &grower{Rand: rng}
	for range 1500 {
		k := g.program()
		plain, _, _ := written(k, &writer{Rand: rng})
		dressed, _, _ := written(k, &writer{Rand: rng, gaps: true, brackets: 5})
		a, first := Program(plain)
		b, second := Program(dressed)
		if first.Code != api.OK || second.Code != api.OK || !tree.Same(a, b) {
			t.Fatalf("%q and %q differ: %v, %v", plain, dressed, first, second)
		}
	}
	for _, around := range []int{1, 7, 60, 199} {
		text := "fn m(){if " + rep("(", around-1) + "a" + rep(")", around-1) + "{}}"
		programs.takes(t, text, "program @0; .fn m - @0; ..block @6; ...if @7; ....name a @"+strconv.Itoa(9+around)+"; ....block @"+strconv.Itoa(2*around+9))
	}
}

// P4.5: the first problem stays, whatever comes behind its token.
func TestFirstProblemStays(t *testing.T) {
	rng := rand.New(rand.NewSource(45))
	tokens := append(strings.Fields(everyToken), "$", "01", `"`, "# (", rep("(", 201), rep("}", 50))
	refused := 0
	for range 20000 {
		text := []string{"", "fn m() {", "fn m() { if x {", "fn m(x: int): int { return "}[rng.Intn(4)]
		for range rng.Intn(6) {
			text += " " + tokens[rng.Intn(len(tokens))]
		}
		_, problem := Program(text)
		if problem.Code != api.ErrToken || problem.At == len(text) {
			continue
		}
		refused++
		scanned, _ := lex.Scan(text)
		i := slices.IndexFunc(scanned, func(token api.Token) bool { return token.At == problem.At })
		longer := text[:scanned[i].End] + " "
		for range rng.Intn(8) {
			longer += tokens[rng.Intn(len(tokens))] + []string{" ", "", "\n"}[rng.Intn(3)]
		}
		want := problem
		if _, first := lex.Scan(longer); first.Code != api.OK {
			want = first
		} else if second := firstOpen(longer); second.Code != api.OK {
			want = second
		}
		if _, got := Program(longer); got != want {
			t.Fatalf("Program(%q): %v, but of %q: %v, want %v", text, problem, longer, got, want)
		}
	}
	if refused < 2000 {
		t.Errorf("only %d texts were refused", refused)
	}
}

// P4.6: any bytes and any tokens are answered, with a tree or a problem but not both.
func TestAnyTexts(t *testing.T) {
	rng := rand.New(rand.NewSource(46))
	pieces := append(strings.Fields(everyToken), "\xff", "$", `"`, "#", "\n", "\\", "fn x ( ) {", "99999999999999999999", "é", "_")
	for i := range 60000 {
		var text string
		for range rng.Intn(12) {
			if i%3 == 0 {
				text += string([]byte{byte(rng.Intn(256))})
			} else {
				text += pieces[rng.Intn(len(pieces))] + []string{"", " "}[rng.Intn(2)]
			}
		}
		for _, f := range []face{programs, exprs} {
			got, problem := f.call(text)
			switch {
			case problem.Code == api.OK && (problem.At != 0 || tree.Valid(got) != api.OK):
				t.Fatalf("%s(%q): %v, %v", f.name, text, got, problem)
			case problem.Code != api.OK && (got.Nodes != nil || problem.At < 0 || problem.At > len(text)):
				t.Fatalf("%s(%q): %v, %v", f.name, text, got, problem)
			}
		}
	}
}

// P4.6: lists that are answered are new memory, and so are the texts in them.
func TestAnswersAreNew(t *testing.T) {
	text := `fn main(a: [int]): text { x: while b { break x; } return "long text" + f(a); }`
	first, _ := Program(text)
	kept := slices.Clone(first.Nodes)
	second, _ := Program(text)
	for i := range second.Nodes {
		second.Nodes[i] = api.Node{Kind: 99}
	}
	spare := second.Nodes[:cap(second.Nodes)]
	for i := range spare {
		spare[i].At = -1
	}
	if !slices.Equal(first.Nodes, kept) {
		t.Errorf("two answers share nodes")
	}
	third, _ := Program(text)
	if !slices.Equal(third.Nodes, kept) {
		t.Errorf("an answer hangs on what was done with an earlier one")
	}
	begin := uintptr(unsafe.Pointer(unsafe.StringData(text)))
	for n, node := range first.Nodes {
		for _, s := range []string{node.Name, node.Label, node.Type, node.Text} {
			at := uintptr(unsafe.Pointer(unsafe.StringData(s)))
			if s != "" && at >= begin && at < begin+uintptr(len(text)) {
				t.Errorf("node %d: %q is a piece of the text", n, s)
			}
		}
	}
}

// A refusal wraps the sentinel and tells its place; another panic is not swallowed.
func TestRefusals(t *testing.T) {
	problem := api.Problem{Code: api.ErrToken, At: 7}
	var err error = refusal{problem}
	var back refusal
	if !errors.Is(err, errRefused) || !errors.As(err, &back) || back.problem != problem {
		t.Errorf("%v does not tell what it wraps", err)
	}
	if err.Error() != "no source: error 40 at 7" {
		t.Errorf("it says %q", err.Error())
	}
	if problemOf(err) != problem || problemOf(nil) != (api.Problem{}) {
		t.Errorf("what was recovered is not told")
	}
	for _, cause := range []any{"else", errors.New("no source"), 7} {
		func() {
			defer func() {
				if got := recover(); !reflect.DeepEqual(got, cause) {
					t.Errorf("%v was raised, %v came", cause, got)
				}
			}()
			problemOf(cause)
		}()
	}
}
