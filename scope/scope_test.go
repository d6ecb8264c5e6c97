package scope

import (
	"fmt"
	"math"
	"math/rand"
	"slices"
	"strconv"
	"strings"
	"testing"

	"retrace/api"
	"retrace/parse"
	"retrace/tree"
)

// told tells all of an answer; an empty list and none are one.
func told(answer any) string {
	return fmt.Sprintf("%+v", answer)
}

func dump(t api.Tree) string {
	text, _ := tree.Dump(t)
	if len(text) > 3000 {
		text = text[:3000] + ".."
	}
	return text
}

func parsed(t *testing.T, source string) api.Tree {
	t.Helper()
	p, problem := parse.Program(source)
	if problem.Code != api.OK {
		t.Fatalf("the source %q: %v", source, problem)
	}
	return p
}

// resolved is what the names of a source mean that has no problem.
func resolved(t *testing.T, source string) (api.Tree, api.Scoped) {
	t.Helper()
	p := parsed(t, source)
	s, problem := Resolve(p)
	if problem != (api.Problem{}) {
		t.Fatalf("%q: %v", source, problem)
	}
	return p, s
}

// refuses checks that a source has the problem with its offset at the mark ^, which is no part of it, and no answer beside.
func refuses(t *testing.T, marked string, errno api.Errno) {
	t.Helper()
	at := strings.IndexByte(marked, '^')
	source := strings.Replace(marked, "^", "", 1)
	s, problem := Resolve(parsed(t, source))
	if problem != (api.Problem{Code: errno, At: at}) {
		t.Errorf("%q: %v, want %d at %d", source, problem, errno, at)
	}
	if told(s) != told(api.Scoped{}) {
		t.Errorf("%q: %v beside the problem", source, s)
	}
}

// holds checks a tree against the chapter's words.
func holds(t *testing.T, p api.Tree) api.Problem {
	t.Helper()
	wanted, problem := want(p)
	s, got := Resolve(p)
	if got != problem {
		t.Fatalf("%v, want %v, of\n%s", got, problem, dump(p))
	}
	if told(s) != told(wanted) {
		t.Fatalf("%+v\nwant\n%+v\nof\n%s", s, wanted, dump(p))
	}
	return problem
}

// shows checks what is visible at every number, of a tree that has no problem.
func shows(t *testing.T, p api.Tree) {
	t.Helper()
	s, _ := Resolve(p)
	c := chapterOf(p)
	for n := -1; n <= len(p.Nodes); n++ {
		if got, wanted := Visible(p, s, n), c.visible(n); told(got) != told(wanted) {
			t.Fatalf("at %d %v, want %v, of\n%s", n, got, wanted, dump(p))
		}
	}
}

// P6.1: no tree, or none of a program.
func TestNoTree(t *testing.T) {
	for what, nodes := range map[string][]api.Node{
		"none":                    nil,
		"an empty list":           {},
		"an expression":           {{Kind: api.KInt, At: 5, Size: 1}},
		"a name":                  {{Kind: api.KName, Name: "x", At: 5, Size: 1}},
		"a call of main":          {{Kind: api.KCall, Name: "main", Size: 1}},
		"a function":              {{Kind: api.KFunc, Name: "main", At: 5, Size: 2}, {Kind: api.KBlock, Size: 1}},
		"a block":                 {{Kind: api.KBlock, At: 5, Size: 1}},
		"a program of Size 0":     {{Kind: api.KProgram, At: 5}},
		"a program of Size 2":     {{Kind: api.KProgram, At: 5, Size: 2}},
		"a program with At -1":    {{Kind: api.KProgram, At: -1, Size: 1}},
		"a program with a name":   {{Kind: api.KProgram, Name: "x", Size: 1}},
		"a function with no body": {{Kind: api.KProgram, At: 5, Size: 2}, {Kind: api.KFunc, Name: "main", At: 5, Size: 1}},
		"a main of a bad name":    {{Kind: api.KProgram, Size: 3}, {Kind: api.KFunc, Name: "ma in", Size: 2}, {Kind: api.KBlock, Size: 1}},
		"kind 0":                  {{At: 5, Size: 1}},
	} {
		s, problem := Resolve(api.Tree{Nodes: nodes})
		if problem != (api.Problem{Code: api.ErrTree}) || told(s) != told(api.Scoped{}) {
			t.Errorf("%s: %v, %v", what, s, problem)
		}
		for n := -1; n < 3; n++ {
			if got := Visible(api.Tree{Nodes: nodes}, api.Scoped{}, n); len(got) > 0 {
				t.Errorf("%s: at %d %v", what, n, got)
			}
		}
	}
}

// manyFuncs is so many functions f0, f1 and on.
func manyFuncs(count int) string {
	var b strings.Builder
	for i := range count {
		b.WriteString("fn f" + strconv.Itoa(i) + "() { } ")
	}
	return b.String()
}

// P6.1: the functions.
func TestFunctions(t *testing.T) {
	refuses(t, "fn main() { } ^fn main() { }", api.ErrTwice)
	refuses(t, "fn f() { } fn main() { } fn g() { } ^fn f(a: int): int { } fn g() { }", api.ErrTwice)
	refuses(t, "fn f() { } ^fn f() { }", api.ErrTwice) // and no main
	refuses(t, "fn f() { x = 1; } fn main(a: int): int { } ^fn f() { }", api.ErrTwice)
	resolved(t, manyFuncs(59)+"fn main() { }")
	resolved(t, "fn main() { } "+manyFuncs(59))
	refuses(t, manyFuncs(60)+"^fn main() { }", api.ErrMany)
	refuses(t, manyFuncs(60)+"^fn f60() { } fn main() { }", api.ErrMany)
	refuses(t, manyFuncs(60)+"^fn f60() { } fn f60() { }", api.ErrMany)
	refuses(t, manyFuncs(60)+"^fn f59() { }", api.ErrTwice) // one too many is told as twice, if it is that too
	refuses(t, manyFuncs(59)+"^fn f0() { } fn f60() { } fn f61() { }", api.ErrTwice)
	refuses(t, manyFuncs(60)+"^fn f60(a: int, a: int) { x = 1; }", api.ErrMany)
	s, problem := Resolve(parsed(t, manyFuncs(59)+"fn main() { f58(); main(); }"))
	if problem.Code != api.OK || len(s.Funcs) != 60 || s.Funcs[59].Name != "main" || s.Funcs[58].Name != "f58" {
		t.Errorf("60 functions: %v, %d", problem, len(s.Funcs))
	}
}

// P6.1: main.
func TestMain(t *testing.T) {
	refuses(t, "^", api.ErrMain)
	refuses(t, "^fn f() { }", api.ErrMain)
	refuses(t, " \n # no main\n^", api.ErrMain)
	refuses(t, "^fn f() { x = 1; } fn Main() { } fn main_() { }", api.ErrMain)
	refuses(t, "^fn f() { var main: int = 1; main: while true { } }", api.ErrMain)
	refuses(t, " ^fn main(a: int) { }", api.ErrMain)
	refuses(t, "fn f() { x = 1; } ^fn main(): int { return 1; }", api.ErrMain)
	refuses(t, "fn f(a: int, a: int) { } ^fn main(a: int, a: int): int { return b; }", api.ErrMain)
	// The root's own At: one of a source is that of its first token, but a tree may have any.
	f := tie(api.Node{Kind: api.KFunc, Name: "f"}, tie(api.Node{Kind: api.KBlock}))
	p := tie(api.Node{Kind: api.KProgram}, f).tree()
	if _, problem := Resolve(p); problem != (api.Problem{Code: api.ErrMain, At: 1000}) {
		t.Errorf("no main: %v", problem)
	}
	f.Name, f.Type = "main", "[int]"
	p = tie(api.Node{Kind: api.KProgram}, f).tree()
	if _, problem := Resolve(p); problem != (api.Problem{Code: api.ErrMain, At: 1003}) {
		t.Errorf("a main with a result: %v", problem)
	}
	resolved(t, "fn main() { }")
	resolved(t, "fn f(main: int): int { main = 1; } fn main() { main(); var main: int = 1; print main, f(main); }")
}

// blocksOf is a number of blocks with a text each.
func blocksOf(count int, text string) string {
	return strings.Repeat("{ "+text+" } ", count)
}

// P6.1: too many variables.
func TestMany(t *testing.T) {
	one, loop := "var a: int = 1;", "for i = 1 to 2 { }"
	in := func(head, body string) string { return "fn f() { } ^fn main(" + head + ") { " + body + "}" }
	fits := func(source string) {
		t.Helper()
		source = strings.Replace(source, "^", "", 1)
		_, s := resolved(t, source)
		if slots := s.Funcs[len(s.Funcs)-1].Slots; slots != 250 {
			t.Errorf("%d slots, want 250", slots)
		}
	}
	fits(in("", blocksOf(250, one)))
	refuses(t, in("", blocksOf(251, one)), api.ErrMany)
	fits(in("", blocksOf(83, loop)+one))
	refuses(t, in("", blocksOf(83, loop)+blocksOf(2, one)), api.ErrMany)
	refuses(t, in("", blocksOf(84, loop)), api.ErrMany)
	fits("fn main() { } fn f(p: int, q: int): int { " + blocksOf(82, loop) + blocksOf(2, one) + "}")
	refuses(t, "fn main() { } ^fn f(p: int, q: int): int { "+blocksOf(82, loop)+blocksOf(3, one)+"}", api.ErrMany)
	// The function stands ahead of all in it, but behind all of the one ahead.
	refuses(t, in("", "x = 1; "+blocksOf(251, one)), api.ErrMany)
	refuses(t, "fn f() { ^x = 1; } fn main() { "+blocksOf(251, one)+"}", api.ErrUnseen)
	refuses(t, "^fn main() { "+blocksOf(251, one)+"} fn f() { "+blocksOf(251, one)+"}", api.ErrMany)
	// Each function has slots of its own.
	resolved(t, "fn f() { "+blocksOf(200, one)+"} fn main() { "+blocksOf(200, one)+"}")
}

// P6.1: the nodes, each kind of them.
func TestProblems(t *testing.T) {
	in := func(body string) string { return "fn f(p: int, q: text): bool { } fn main() { " + body + " }" }
	for body, errno := range map[string]api.Errno{
		"var a: int = 1; ^var a: int = 2;":                     api.ErrTwice,
		"var a: int = 1; { } ^var a: bool = a;":                api.ErrTwice,
		"{ var a: int = 1; print a; ^var a: int = 2; }":        api.ErrTwice,
		"for i = 1 to 2 { ^var i: int = 1; }":                  api.ErrTwice,
		"for i = 1 to 2 { { } ^var i: int = i; }":              api.ErrTwice,
		"while true { var a: int = 1; ^var a: int = 2; }":      api.ErrTwice,
		"if true { } else { var a: int = 1; ^var a: int = 2;}": api.ErrTwice,

		"^x = 1; var x: int = 2;":                         api.ErrUnseen,
		"var x: int = ^x;":                                api.ErrUnseen,
		"{ var x: int = 1; } ^x = 1;":                     api.ErrUnseen,
		"{ { var x: int = 1; } { print ^x; } }":           api.ErrUnseen,
		"if true { var x: int = 1; } else { print ^x; }":  api.ErrUnseen,
		"if true { var x: bool = true; } else if ^x { }":  api.ErrUnseen,
		"while ^x { var x: bool = true; }":                api.ErrUnseen,
		"while true { var x: int = 1; } read ^x;":         api.ErrUnseen,
		"for i = ^i to 2 { }":                             api.ErrUnseen,
		"for i = 1 to ^i { }":                             api.ErrUnseen,
		"for i = 1 to 2 { } print ^i;":                    api.ErrUnseen,
		"for i = 1 to 2 { for j = i to i { } print ^j; }": api.ErrUnseen,
		"for i = 1 to 2 { var x: int = i; } print ^x;":    api.ErrUnseen,
		"print ^main;":                                    api.ErrUnseen,
		"print ^p;":                                       api.ErrUnseen,
		"print 1, len(str(-(new int[2])[^x]));":           api.ErrUnseen,
		"var x: [int] = new int[1]; x[^y] = z;":           api.ErrUnseen,
		"f(^x, \"\");":                                    api.ErrUnseen,
		"return ^x;":                                      api.ErrUnseen,
		"return @1 ^x;":                                   api.ErrUnseen,
		"l: while true { print ^l; }":                     api.ErrUnseen,
		"^@1 x;":                                          api.ErrUnseen,
		"@1; ^@2 x; var x: int = 1;":                      api.ErrUnseen,
		"{ var x: int = 1; @1 x; } ^@1 x;":                api.ErrUnseen,
		"^g();":                                           api.ErrUnseen,
		"var g: int = 1; print g, ^g();":                  api.ErrUnseen,
		"print f(1, ^h(x));":                              api.ErrUnseen,
		"^F(x);":                                          api.ErrUnseen,
		"for f = 1 to 2 { f(f, \"\"); ^i(); }":            api.ErrUnseen,
		"l: while true { ^l: while true { } }":            api.ErrTwice,
		"l: while true { ^l: for i = x to 2 { } }":        api.ErrTwice,
		"l: for i = 1 to 2 { ^l: for i = 1 to 2 { } }":    api.ErrTwice,
		"l: for i = 1 to 2 { m: while true { { if true { ^l: while x {}}}}}": api.ErrTwice,
		"l: while true { while true { m: while true { ^l: while x {}}}}":     api.ErrTwice,

		"^break;":                                    api.ErrLoop,
		"^continue;":                                 api.ErrLoop,
		"^break l;":                                  api.ErrLoop,
		"while true { } ^continue;":                  api.ErrLoop,
		"for i = 1 to 2 { } ^break;":                 api.ErrLoop,
		"if true { ^break; }":                        api.ErrLoop,
		"{ while true { } { ^break; } }":             api.ErrLoop,
		"a: while true { ^break b; }":                api.ErrLoop,
		"a: while true { } ^break a;":                api.ErrLoop,
		"while true { a: while true { } ^break a; }": api.ErrLoop,
		"while true { ^continue main; }":             api.ErrLoop,
		"for i = 1 to 2 { ^continue i; }":            api.ErrLoop,
		"var x: int = 1; while true { ^break x; }":   api.ErrLoop,

		// The first one by its number, whatever its kind.
		"^x = y; break;":                                              api.ErrUnseen,
		"^break; x = y;":                                              api.ErrLoop,
		"var x: int = 1; ^var x: int = y;":                            api.ErrTwice,
		"l: while true { ^l: while y { break m; } }":                  api.ErrTwice,
		"l: while ^y { l: while true { } }":                           api.ErrUnseen,
		"print ^g(x), y;":                                             api.ErrUnseen,
		"while true { while true { } break; } { ^break; } g(x);":      api.ErrLoop,
		"var x: int = 1; { x = ^y; var x: int = 1; var x: int = 2; }": api.ErrUnseen,
	} {
		refuses(t, in(body), errno)
	}
	refuses(t, "fn f(a: int, ^a: int) { } fn main() { }", api.ErrTwice)
	refuses(t, "fn f(a: int, b: int, ^a: [text], b: int) { x = 1; } fn main() { }", api.ErrTwice)
	refuses(t, "fn f(a: int) { ^var a: int = 1; } fn main() { }", api.ErrTwice)
	refuses(t, "fn f(a: int, b: int) { { } ^var b: int = b; } fn main() { }", api.ErrTwice)
	refuses(t, "fn f(a: int) { } fn main() { ^a = 1; }", api.ErrUnseen)
	refuses(t, "fn f() { var a: int = 1; } fn main() { ^a = 1; }", api.ErrUnseen)
	refuses(t, "fn main() { var a: int = 1; } fn f() { ^a = 1; }", api.ErrUnseen)
	refuses(t, "fn f() { l: while true { } } fn main() { ^break l; }", api.ErrLoop)
	refuses(t, "fn main() { ^x = 1; } fn f(a: int, a: int) { }", api.ErrUnseen)
}

// P6.1: what is taken, though it looks like what is not.
func TestNoProblem(t *testing.T) {
	for _, body := range []string{
		"", "{ }", "@1;", "return;",
		"{ var a: int = 1; } var a: int = 1; { var a: int = a; }",
		"{ var a: int = 1; } { var a: int = 1; }",
		"var a: int = 1; { var a: int = a; { var a: int = a; } print a; }",
		"for i = 1 to 2 { { var i: int = i; } i = 1; }",
		"for i = 1 to 2 { for i = i to i { i = i; } } for i = 1 to 2 { }",
		"var i: int = 1; for i = i to i { i = i; } i = 1;",
		"var main: int = 1; main(); main = main;",
		"a: while true { } a: while true { }",
		"a: while true { b: while true { } b: for a = 1 to 2 { break a; } }",
		"var a: int = 1; a: while a { break a; }",
		"a: for a = 1 to 2 { a = a; continue a; }",
		"while true { while true { break; } continue; }",
		"while true { if true { break; } else if true { continue; } else { { break; } } }",
		"while true { while true { while true { } } }",
		"var x: int = 1; @1 x; { @2 x; var x: int = 2; @3 x; @4; return @5; }",
	} {
		source := "fn main() { " + body + " } fn f(main: int, f: int) { { var f: int = f; } main(); f(main, f); }"
		p, _ := resolved(t, source)
		holds(t, p)
		shows(t, p)
	}
	resolved(t, "fn f(a: int) { { var a: int = a; } } fn g(a: int) { } fn main() { var a: int = 1; }")
	resolved(t, "fn f() { l: while true { break l; } } fn main() { l: while true { break l; } }")
}

// P6.2: an answer in full, by the words of the dump.
func TestScoped(t *testing.T) {
	p, s := resolved(t, `fn f(a: int, b: [text]): bool {
	l: for i = a to len(b) {
		var a: text = b[i];
		while true { @3 a; break; }
		for j = 1 to i { continue l; }
	}
	return @7 a == a;
}
fn main() { f(1, new text[2]); var x: int = 1; { var x: int = x; read x; } @2 x; @1; main(); }`)
	funcs := []api.Func{
		{Name: "f", Node: 1, Params: 2, Result: "bool", Slots: 9, Vars: []api.Var{
			{Name: "a", Type: "int", Slot: 0, Node: 2},
			{Name: "b", Type: "[text]", Slot: 1, Node: 3},
			{Name: "i", Type: "int", Slot: 2, Node: 5},
			{Name: "a", Type: "text", Slot: 3, Node: 10},
			{Name: "j", Type: "int", Slot: 4, Node: 19},
		}},
		{Name: "main", Node: 28, Slots: 2, Vars: []api.Var{
			{Name: "x", Type: "int", Slot: 0, Node: 35},
			{Name: "x", Type: "int", Slot: 1, Node: 38},
		}},
	}
	if told(s.Funcs) != told(funcs) {
		t.Errorf("Funcs %+v\nwant %+v\nof\n%s", s.Funcs, funcs, dump(p))
	}
	slots := map[int]int{2: 0, 3: 1, 5: 2, 6: 0, 8: 1, 10: 3, 12: 1, 13: 2, 17: 3, 19: 4, 21: 2, 26: 0, 27: 0, 35: 0, 38: 1, 39: 0, 41: 1, 42: 0}
	calls := map[int]int{31: 0, 45: 1}
	targets := map[int]int{18: 14, 23: 5}
	for n := range p.Nodes {
		owner := 1
		if n < 28 {
			owner = 0
		}
		if n == 0 {
			owner = -1
		}
		at := func(numbers map[int]int) int {
			if number, known := numbers[n]; known {
				return number
			}
			return -1
		}
		if s.Slots[n] != at(slots) || s.Calls[n] != at(calls) || s.Targets[n] != at(targets) || s.Owners[n] != owner {
			t.Errorf("node %d: %d, %d, %d, %d, want %d, %d, %d, %d, of\n%s", n, s.Slots[n], s.Calls[n], s.Targets[n], s.Owners[n], at(slots), at(calls), at(targets), owner, dump(p))
		}
	}
	for _, list := range [][]int{s.Slots, s.Calls, s.Targets, s.Owners} {
		if len(list) != len(p.Nodes) {
			t.Errorf("%d numbers of %d nodes", len(list), len(p.Nodes))
		}
	}
}

// slotsOf is the slots of the nodes of a kind.
func slotsOf(p api.Tree, s api.Scoped, kind api.Kind) []int {
	var slots []int
	for n, node := range p.Nodes {
		if node.Kind == kind {
			slots = append(slots, s.Slots[n])
		}
	}
	return slots
}

// P6.2: the chapter's examples.
func TestExamples(t *testing.T) {
	p, s := resolved(t, "fn main() { var x: int = 1; { var x: int = x; print x; } print x; }")
	if got := slotsOf(p, s, api.KName); !slices.Equal(got, []int{0, 1, 0}) || s.Funcs[0].Slots != 2 {
		t.Errorf("names %v, slots %d", got, s.Funcs[0].Slots)
	}
	p, s = resolved(t, "fn main() { a: while true { for i = 1 to 2 { continue a; } } }")
	at := slices.IndexFunc(p.Nodes, func(n api.Node) bool { return n.Kind == api.KContinue })
	if p.Nodes[s.Targets[at]].Kind != api.KWhile || s.Funcs[0].Slots != 3 {
		t.Errorf("target %d, slots %d", s.Targets[at], s.Funcs[0].Slots)
	}
	p, s = resolved(t, "fn main() { var x: int = 1; { var y: int = 2; var x: bool = true; print 1; } }")
	y := api.Var{Name: "y", Type: "int", Slot: 1, Node: 6}
	x := api.Var{Name: "x", Type: "bool", Slot: 2, Node: 8}
	if got := Visible(p, s, 10); !slices.Equal(got, []api.Var{y, x}) {
		t.Errorf("ahead of the print: %v", got)
	}
	if got := Visible(p, s, 6); !slices.Equal(got, []api.Var{{Name: "x", Type: "int", Slot: 0, Node: 3}}) {
		t.Errorf("ahead of var y: %v", got)
	}
}

// P6.3: at every statement of a source, told as names with slots.
func TestVisible(t *testing.T) {
	p, s := resolved(t, `fn f(p: int, q: int) {
	for i = 1 to 2 { for p = 1 to 2 { } var q: int = 1; q = p; }
	var r: int = 1;
	if true { var i: int = 1; { i = 1; } } else if true { var s: int = 1; } else { }
	while true { break; }
}
fn main() { { var z: int = 1; } { } print 1; var y: int = 1; }`)
	var got []string
	for n, node := range p.Nodes {
		var seen []string
		for _, v := range Visible(p, s, n) {
			seen = append(seen, v.Name+strconv.Itoa(v.Slot))
		}
		if kind := node.Kind; kind == api.KBlock || kind > api.KBlock && kind < api.KInt {
			got = append(got, strings.Join(seen, " "))
		} else if seen != nil {
			t.Errorf("at %d, no statement: %v", n, seen)
		}
	}
	wanted := []string{
		"p0 q1",    // the body
		"p0 q1",    // for i
		"p0 q1 i2", // its block
		"p0 q1 i2", // for p
		"q1 i2 p3", // its block
		"p0 q1 i2", // var q
		"p0 i2 q4", // q = p
		"p0 q1",    // var r
		"p0 q1 r5", // if
		"p0 q1 r5", // its block
		"p0 q1 r5", // var i
		"p0 q1 r5 i6",
		"p0 q1 r5 i6", // i = 1
		"p0 q1 r5",    // else if
		"p0 q1 r5",    // its block
		"p0 q1 r5",    // var s
		"p0 q1 r5",    // else
		"p0 q1 r5",    // while
		"p0 q1 r5",    // its block
		"p0 q1 r5",    // break
		"", "", "",    // main's body, a block, var z
		"", "", "", // the other block, print, var y
	}
	if !slices.Equal(got, wanted) {
		t.Errorf("%q\nwant\n%q", got, wanted)
	}
	for _, n := range []int{math.MinInt, -1, len(p.Nodes), len(p.Nodes) + 1, math.MaxInt} {
		if got := Visible(p, s, n); len(got) > 0 {
			t.Errorf("at %d: %v", n, got)
		}
	}
}

// changes is Scoped values that differ from one in one thing each.
func changes(s api.Scoped) []api.Scoped {
	var all []api.Scoped
	change := func(how func(*api.Scoped)) {
		c := api.Scoped{Slots: slices.Clone(s.Slots), Calls: slices.Clone(s.Calls), Targets: slices.Clone(s.Targets), Owners: slices.Clone(s.Owners)}
		for _, f := range s.Funcs {
			f.Vars = slices.Clone(f.Vars)
			c.Funcs = append(c.Funcs, f)
		}
		how(&c)
		all = append(all, c)
	}
	for _, list := range []func(*api.Scoped) *[]int{
		func(c *api.Scoped) *[]int { return &c.Slots },
		func(c *api.Scoped) *[]int { return &c.Calls },
		func(c *api.Scoped) *[]int { return &c.Targets },
		func(c *api.Scoped) *[]int { return &c.Owners },
	} {
		change(func(c *api.Scoped) { *list(c) = nil })
		change(func(c *api.Scoped) { *list(c) = append(*list(c), -1) })
		change(func(c *api.Scoped) { *list(c) = (*list(c))[1:] })
		for n := range s.Slots {
			change(func(c *api.Scoped) { (*list(c))[n]++ })
			change(func(c *api.Scoped) { (*list(c))[n]-- })
		}
	}
	change(func(c *api.Scoped) { c.Funcs = nil })
	change(func(c *api.Scoped) { c.Funcs = append(c.Funcs, api.Func{}) })
	change(func(c *api.Scoped) { c.Funcs = c.Funcs[1:] })
	for i, f := range s.Funcs {
		for _, by := range []int{-1, 1} {
			change(func(c *api.Scoped) { c.Funcs[i].Node += by })
			change(func(c *api.Scoped) { c.Funcs[i].Params += by })
			change(func(c *api.Scoped) { c.Funcs[i].Slots += by })
		}
		for _, text := range []string{"", "A", "zz"} {
			change(func(c *api.Scoped) { c.Funcs[i].Name = text })
			if text != f.Result {
				change(func(c *api.Scoped) { c.Funcs[i].Result = text })
			}
		}
		change(func(c *api.Scoped) { c.Funcs[i].Vars = append(c.Funcs[i].Vars, api.Var{}) })
		for j := range f.Vars {
			change(func(c *api.Scoped) { c.Funcs[i].Vars[j].Name += "x" })
			change(func(c *api.Scoped) { c.Funcs[i].Vars[j].Type += "x" })
			change(func(c *api.Scoped) { c.Funcs[i].Vars[j].Slot-- })
			change(func(c *api.Scoped) { c.Funcs[i].Vars[j].Node++ })
			change(func(c *api.Scoped) { c.Funcs[i].Vars = c.Funcs[i].Vars[:j] })
		}
	}
	return all
}

// P6.3: none is visible with another Scoped, or in a tree with a problem.
func TestAnotherScoped(t *testing.T) {
	p, s := resolved(t, "fn f(p: int): int { l: for i = 1 to p { break l; } } fn e() { } fn main() { var x: int = f(1); x = x; }")
	at := slices.IndexFunc(p.Nodes, func(n api.Node) bool { return n.Kind == api.KAssign })
	if got := Visible(p, s, at); len(got) != 1 || got[0].Name != "x" {
		t.Fatalf("visible: %v", got)
	}
	all := changes(s)
	if len(all) < 100 {
		t.Fatalf("%d changes", len(all))
	}
	for _, c := range all {
		if got := Visible(p, c, at); len(got) > 0 {
			t.Errorf("visible with %+v: %v, where %+v is right", c, got, s)
		}
	}
	if got := Visible(p, api.Scoped{}, at); len(got) > 0 {
		t.Errorf("visible with no Scoped: %v", got)
	}
	// Lists that are empty may be nil or not.
	for i := range s.Funcs {
		if len(s.Funcs[i].Vars) == 0 {
			for _, vars := range [][]api.Var{nil, {}, make([]api.Var, 0, 3)} {
				s.Funcs[i].Vars = vars
				if got := Visible(p, s, at); len(got) != 1 {
					t.Errorf("visible with Vars %#v: %v", vars, got)
				}
			}
		}
	}
	// Of a tree with a problem not even what would be there without it.
	p.Nodes[len(p.Nodes)-1].Name = "y"
	for _, c := range []api.Scoped{s, {}} {
		if got := Visible(p, c, at); len(got) > 0 {
			t.Errorf("visible in a tree with a problem: %v", got)
		}
	}
	// The At of a node is not among what a Scoped tells.
	p.Nodes[len(p.Nodes)-1].Name = "x"
	p.Nodes[at].At = 12345
	if got := Visible(p, s, at); len(got) != 1 {
		t.Errorf("visible with another At: %v", got)
	}
}

// P6.1, P6.2, P6.3: grown programs, tame and wild ones.
func TestGrown(t *testing.T) {
	codes := map[api.Errno]int{}
	for i := range 12000 {
		g := &grower{Rand: rand.New(rand.NewSource(int64(i))), wild: []int{0, 1, 4}[i%3]}
		p := g.program().tree()
		problem := holds(t, p)
		codes[problem.Code]++
		if g.wild == 0 && problem.Code != api.OK {
			t.Fatalf("a tame program has the problem %v:\n%s", problem, dump(p))
		}
		if problem.Code == api.OK && i%4 == 0 && len(p.Nodes) < 400 {
			shows(t, p)
		}
	}
	for _, errno := range []api.Errno{api.OK, api.ErrTwice, api.ErrUnseen, api.ErrMain, api.ErrLoop} {
		if codes[errno] < 150 {
			t.Errorf("error %d was reached %d times only: %v", errno, codes[errno], codes)
		}
	}
}

// bodies is all lists of so many statements, those within others counted, over few names and labels.
func bodies(count int) [][]*knot {
	all := [][]*knot{}
	if count == 0 {
		return append(all, nil)
	}
	for first := 1; first <= count; first++ {
		rests := bodies(count - first)
		for _, s := range statementsOf(first) {
			for _, rest := range rests {
				all = append(all, append([]*knot{s}, rest...))
			}
		}
	}
	return all
}

func statementsOf(count int) []*knot {
	name := func(name string) *knot { return tie(api.Node{Kind: api.KName, Name: name}) }
	seven := tie(api.Node{Kind: api.KInt, Int: 7})
	var all []*knot
	if count == 1 {
		all = append(all,
			tie(api.Node{Kind: api.KVar, Name: "a", Type: "int"}, seven),
			tie(api.Node{Kind: api.KVar, Name: "a", Type: "bool"}, name("a")),
			tie(api.Node{Kind: api.KVar, Name: "b", Type: "int"}, name("a")),
			tie(api.Node{Kind: api.KPrint}, name("a")),
			tie(api.Node{Kind: api.KHook, Int: 1, Name: "b"}),
			tie(api.Node{Kind: api.KBreak}),
			tie(api.Node{Kind: api.KContinue, Label: "a"}),
		)
	}
	for _, body := range bodies(count - 1) {
		block := tie(api.Node{Kind: api.KBlock}, body...)
		all = append(all,
			block,
			tie(api.Node{Kind: api.KIf}, seven, tie(api.Node{Kind: api.KBlock}), block),
			tie(api.Node{Kind: api.KFor, Name: "a"}, seven, name("a"), block),
			tie(api.Node{Kind: api.KFor, Name: "b", Label: "a"}, seven, seven, block),
			tie(api.Node{Kind: api.KWhile, Label: "a"}, seven, block),
		)
	}
	return all
}

// P6.1, P6.2, P6.3: all small bodies.
func TestAllSmallBodies(t *testing.T) {
	most := 4
	if testing.Short() {
		most = 3
	}
	taken := 0
	for count := range most + 1 {
		for _, body := range bodies(count) {
			block := tie(api.Node{Kind: api.KBlock}, body...)
			param := tie(api.Node{Kind: api.KParam, Name: "a", Type: "text"})
			none := tie(api.Node{Kind: api.KFunc, Name: "main"}, tie(api.Node{Kind: api.KBlock}))
			for _, p := range []*knot{
				tie(api.Node{Kind: api.KProgram}, none, tie(api.Node{Kind: api.KFunc, Name: "a"}, param, block)),
				tie(api.Node{Kind: api.KProgram}, tie(api.Node{Kind: api.KFunc, Name: "main"}, block)),
			} {
				if problem := holds(t, p.tree()); problem.Code == api.OK {
					taken++
					if count < 4 {
						shows(t, p.tree())
					}
				}
			}
		}
	}
	if taken < 300 {
		t.Errorf("only %d were taken", taken)
	}
}

// P6.1, P6.5: any field of any node of a program changed.
func TestChangedTrees(t *testing.T) {
	codes := map[api.Errno]int{}
	for i := range 20000 {
		g := &grower{Rand: rand.New(rand.NewSource(int64(i)))}
		nodes := g.program().tree().Nodes
		node := &nodes[g.Intn(len(nodes))]
		switch g.Intn(8) {
		case 0:
			node.Kind = api.Kind(g.Intn(32) - 1)
		case 1:
			node.At = []int{-1, 0, 7, math.MaxInt}[g.Intn(4)]
		case 2, 3:
			node.Name = []string{"", "a", "zz", "main", "if", "x y"}[g.Intn(6)]
		case 4:
			node.Label = []string{"", "a", "l", "if"}[g.Intn(4)]
		case 5:
			node.Type = []string{"", "int", "[bool]", "int "}[g.Intn(4)]
		case 6:
			node.Int = int64(g.Intn(4) - 1)
		case 7:
			node.Size += g.Intn(5) - 2
		}
		codes[holds(t, api.Tree{Nodes: nodes}).Code]++
	}
	for _, errno := range []api.Errno{api.OK, api.ErrTree, api.ErrTwice, api.ErrUnseen, api.ErrMain, api.ErrLoop} {
		if codes[errno] < 20 {
			t.Errorf("error %d was reached %d times only: %v", errno, codes[errno], codes)
		}
	}
}

// P6.5: any lists of nodes, any Scoped, any numbers.
func TestAnything(t *testing.T) {
	r := rand.New(rand.NewSource(1))
	numbers := func() []int {
		list := make([]int, r.Intn(7))
		for i := range list {
			list[i] = r.Intn(9) - 3
		}
		return list
	}
	for range 100000 {
		nodes := make([]api.Node, r.Intn(7))
		for i := range nodes {
			nodes[i] = api.Node{Kind: api.Kind(r.Intn(32) - 1), Size: len(nodes) - i}
			if i < 3 && r.Intn(4) > 0 {
				nodes[i].Kind = []api.Kind{api.KProgram, api.KFunc, api.KBlock}[i]
			}
			if r.Intn(3) == 0 {
				nodes[i].Size = r.Intn(8) - 1
			}
			if r.Intn(2) == 0 || nodes[i].Kind == api.KFunc {
				nodes[i].Name = []string{"main", "a"}[r.Intn(2)]
			}
			if r.Intn(4) == 0 {
				nodes[i].Label = "a"
			}
			if r.Intn(4) == 0 {
				nodes[i].Type = "int"
			}
			if r.Intn(4) == 0 {
				nodes[i].Int = int64(r.Intn(3) - 1)
			}
		}
		p := api.Tree{Nodes: nodes}
		holds(t, p)
		s := api.Scoped{Slots: numbers(), Calls: numbers(), Targets: numbers(), Owners: numbers()}
		for range r.Intn(3) {
			s.Funcs = append(s.Funcs, api.Func{Name: "main", Node: r.Intn(5) - 2, Params: r.Intn(3) - 1, Slots: r.Intn(3) - 1, Vars: make([]api.Var, r.Intn(3))})
		}
		if got := Visible(p, s, r.Intn(10)-2); len(got) > 0 {
			t.Fatalf("visible by chance: %v, %v: %v", p, s, got)
		}
	}
}

// P6.4: a variable's name replaced by one that its function has not.
func TestNamesAreButNames(t *testing.T) {
	renamed := 0
	for i := range 3000 {
		g := &grower{Rand: rand.New(rand.NewSource(int64(i)))}
		p := g.program().tree()
		s, problem := Resolve(p)
		if problem.Code != api.OK {
			t.Fatalf("a tame program has the problem %v:\n%s", problem, dump(p))
		}
		number := g.Intn(len(s.Funcs))
		f := s.Funcs[number]
		if len(f.Vars) == 0 {
			continue
		}
		v := f.Vars[g.Intn(len(f.Vars))]
		name := newName(p.Nodes[f.Node : f.Node+p.Nodes[f.Node].Size])
		changed := api.Tree{Nodes: slices.Clone(p.Nodes)}
		c := chapterOf(p)
		for n, node := range p.Nodes {
			meant, any := c.means(node.Name, n)
			isName := node.Kind == api.KName || node.Kind == api.KHook
			if n == v.Node || isName && any && meant.node == v.Node {
				changed.Nodes[n].Name = name
			}
		}
		f.Vars[v.Slot].Name = name
		again, problem := Resolve(changed)
		if problem.Code != api.OK || told(again) != told(s) {
			t.Fatalf("%s at %d named %s: %v, %v, of\n%s", v.Name, v.Node, name, problem, again, dump(p))
		}
		renamed++
	}
	if renamed < 1000 {
		t.Errorf("%d renamed", renamed)
	}
}

// newName is a name that occurs nowhere in a function, though perhaps in others.
func newName(nodes []api.Node) string {
	for _, name := range append(slices.Clone(names), "g", "l", "m") {
		if !slices.ContainsFunc(nodes, func(n api.Node) bool { return n.Name == name || n.Label == name }) {
			return name
		}
	}
	return "zz"
}
