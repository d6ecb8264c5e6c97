package hooks

import (
	"slices"
	"strconv"
	"strings"
	"testing"

	"retrace/api"
	"retrace/flow"
	"retrace/parse"
	"retrace/pretty"
)

const example = "fn f(a: int): int { return a; } fn main() { var x: int = f(1); if true { x = 2; } }"

func front(t *testing.T, text string) api.Program {
	t.Helper()
	p, problem := flow.Front(text)
	if problem.Code != api.OK {
		t.Fatalf("%q is refused: %v", text, problem)
	}
	return p
}

func parsed(t *testing.T, text string) api.Tree {
	t.Helper()
	read, problem := parse.Program(text)
	if problem.Code != api.OK {
		t.Fatalf("%q is refused: %v", text, problem)
	}
	return read
}

// line is a tree's canonical text on one line.
func line(t *testing.T, p api.Tree) string {
	t.Helper()
	text, errno := pretty.Program(p)
	if errno != api.OK {
		t.Fatalf("no text: %d", errno)
	}
	return strings.Join(strings.Fields(text), " ")
}

// tells holds what Instrument makes of a source against the text with hooks and the table.
func tells(t *testing.T, text, hooked string, rows []api.Hook) {
	t.Helper()
	x, table, errno := Instrument(front(t, text))
	if errno != api.OK {
		t.Fatalf("%s: %d", text, errno)
	}
	if got := line(t, x); got != hooked {
		t.Errorf("%s: %s, want %s", text, got, hooked)
	}
	if !slices.Equal(table, rows) {
		t.Errorf("%s: the table is %v, want %v", text, table, rows)
	}
}

// P12.1: the chapter's example.
func TestExample(t *testing.T) {
	tells(t, example,
		"fn f(a: int): int { @1; @2 a; @3; return @4 a; } fn main() { @5; @6; var x: int = f(1); @7 x; @8; if true { @9; @10; x = 2; @11 x; @12; } @13; }",
		[]api.Hook{
			{Kind: api.EvCall, Node: 1, Name: "f"}, {Kind: api.EvSet, Node: 2, Name: "a"}, {Kind: api.EvStmt, Node: 4}, {Kind: api.EvReturn, Node: 4},
			{Kind: api.EvCall, Node: 6, Name: "main"}, {Kind: api.EvStmt, Node: 8}, {Kind: api.EvSet, Node: 8, Name: "x"}, {Kind: api.EvStmt, Node: 11},
			{Kind: api.EvEnter, Node: 13}, {Kind: api.EvStmt, Node: 14}, {Kind: api.EvSet, Node: 14, Name: "x"}, {Kind: api.EvExit, Node: 13}, {Kind: api.EvLeave, Node: 6},
		})
}

// P12.1: each row of the table, with its statement in main's body; the hooks ahead of it and main's end are added here.
func TestRows(t *testing.T) {
	const head = "var x: int = 0; var g: [[int]] = new [int][1]; "
	for _, row := range []struct {
		text, hooked string
		rows         []api.Hook
	}{
		{"{ }", "{ @6; @7; }", []api.Hook{{Kind: api.EvEnter, Node: 8}, {Kind: api.EvExit, Node: 8}}},
		{"{ { } }", "{ @6; { @7; @8; } @9; }", []api.Hook{{Kind: api.EvEnter, Node: 8}, {Kind: api.EvEnter, Node: 9}, {Kind: api.EvExit, Node: 9}, {Kind: api.EvExit, Node: 8}}},
		{"{ print 1; { } main(); }", "{ @6; @7; print 1; { @8; @9; } @10; main(); @11; }", []api.Hook{{Kind: api.EvEnter, Node: 8}, {Kind: api.EvStmt, Node: 9}, {Kind: api.EvEnter, Node: 11}, {Kind: api.EvExit, Node: 11}, {Kind: api.EvStmt, Node: 12}, {Kind: api.EvExit, Node: 8}}},
		{"var y: bool = true;", "@6; var y: bool = true; @7 y;", []api.Hook{{Kind: api.EvStmt, Node: 8}, {Kind: api.EvSet, Node: 8, Name: "y"}}},
		{"x = x + 1;", "@6; x = x + 1; @7 x;", []api.Hook{{Kind: api.EvStmt, Node: 8}, {Kind: api.EvSet, Node: 8, Name: "x"}}},
		{"g = g;", "@6; g = g; @7 g;", []api.Hook{{Kind: api.EvStmt, Node: 8}, {Kind: api.EvSet, Node: 8, Name: "g"}}},
		{"g[x] = new int[1];", "@6; g[x] = new int[1]; @7 g;", []api.Hook{{Kind: api.EvStmt, Node: 8}, {Kind: api.EvTouch, Node: 8, Name: "g"}}},
		{"g[x][x] = 2;", "@6; g[x][x] = 2; @7 g;", []api.Hook{{Kind: api.EvStmt, Node: 8}, {Kind: api.EvTouch, Node: 8, Name: "g"}}},
		{"g[g[0][x]][1] = 2;", "@6; g[g[0][x]][1] = 2; @7 g;", []api.Hook{{Kind: api.EvStmt, Node: 8}, {Kind: api.EvTouch, Node: 8, Name: "g"}}},
		{"x = g[0][0];", "@6; x = g[0][0]; @7 x;", []api.Hook{{Kind: api.EvStmt, Node: 8}, {Kind: api.EvSet, Node: 8, Name: "x"}}},
		{"read x;", "@6; read x; @7 x;", []api.Hook{{Kind: api.EvStmt, Node: 8}, {Kind: api.EvSet, Node: 8, Name: "x"}}},
		{"read g[0][x];", "@6; read g[0][x]; @7 g;", []api.Hook{{Kind: api.EvStmt, Node: 8}, {Kind: api.EvTouch, Node: 8, Name: "g"}}},
		{"print x, g[0][0];", "@6; print x, g[0][0];", []api.Hook{{Kind: api.EvStmt, Node: 8}}},
		{"main();", "@6; main();", []api.Hook{{Kind: api.EvStmt, Node: 8}}},
		{"return;", "@6; return @7;", []api.Hook{{Kind: api.EvStmt, Node: 8}, {Kind: api.EvReturn, Node: 8}}},
		{"if true { }", "@6; if true { @7; @8; }", []api.Hook{{Kind: api.EvStmt, Node: 8}, {Kind: api.EvEnter, Node: 10}, {Kind: api.EvExit, Node: 10}}},
		{"if true { } else { x = 1; }", "@6; if true { @7; @8; } else { @9; @10; x = 1; @11 x; @12; }", []api.Hook{{Kind: api.EvStmt, Node: 8}, {Kind: api.EvEnter, Node: 10}, {Kind: api.EvExit, Node: 10}, {Kind: api.EvEnter, Node: 11}, {Kind: api.EvStmt, Node: 12}, {Kind: api.EvSet, Node: 12, Name: "x"}, {Kind: api.EvExit, Node: 11}}},
		{"if true { } else if false { } else { }", "@6; if true { @7; @8; } else if false { @9; @10; } else { @11; @12; }", []api.Hook{{Kind: api.EvStmt, Node: 8}, {Kind: api.EvEnter, Node: 10}, {Kind: api.EvExit, Node: 10}, {Kind: api.EvEnter, Node: 13}, {Kind: api.EvExit, Node: 13}, {Kind: api.EvEnter, Node: 14}, {Kind: api.EvExit, Node: 14}}},
		{"if true { } else { if true { } }", "@6; if true { @7; @8; } else { @9; @10; if true { @11; @12; } @13; }", []api.Hook{{Kind: api.EvStmt, Node: 8}, {Kind: api.EvEnter, Node: 10}, {Kind: api.EvExit, Node: 10}, {Kind: api.EvEnter, Node: 11}, {Kind: api.EvStmt, Node: 12}, {Kind: api.EvEnter, Node: 14}, {Kind: api.EvExit, Node: 14}, {Kind: api.EvExit, Node: 11}}},
		{"l: while true { continue l; }", "@6; l: while true { @7; @8; continue l; @9; }", []api.Hook{{Kind: api.EvStmt, Node: 8}, {Kind: api.EvEnter, Node: 10}, {Kind: api.EvStmt, Node: 11}, {Kind: api.EvExit, Node: 10}}},
		{"while true { break; }", "@6; while true { @7; @8; break; @9; }", []api.Hook{{Kind: api.EvStmt, Node: 8}, {Kind: api.EvEnter, Node: 10}, {Kind: api.EvStmt, Node: 11}, {Kind: api.EvExit, Node: 10}}},
		{"for i = 1 to 2 { print i; }", "@6; for i = 1 to 2 { @7; @8 i; @9; print i; @10; }", []api.Hook{{Kind: api.EvStmt, Node: 8}, {Kind: api.EvEnter, Node: 11}, {Kind: api.EvSet, Node: 8, Name: "i"}, {Kind: api.EvStmt, Node: 12}, {Kind: api.EvExit, Node: 11}}},
		{"m: for x = x to x + 1 { }", "@6; m: for x = x to x + 1 { @7; @8 x; @9; }", []api.Hook{{Kind: api.EvStmt, Node: 8}, {Kind: api.EvEnter, Node: 13}, {Kind: api.EvSet, Node: 8, Name: "x"}, {Kind: api.EvExit, Node: 13}}},
	} {
		count := 6 + len(row.rows)
		rows := append([]api.Hook{{Kind: api.EvCall, Node: 1, Name: "main"}, {Kind: api.EvStmt, Node: 3}, {Kind: api.EvSet, Node: 3, Name: "x"}, {Kind: api.EvStmt, Node: 5}, {Kind: api.EvSet, Node: 5, Name: "g"}}, row.rows...)
		rows = append(rows, api.Hook{Kind: api.EvLeave, Node: 1})
		tells(t, "fn main() { "+head+row.text+" }",
			"fn main() { @1; @2; var x: int = 0; @3 x; @4; var g: [[int]] = new [int][1]; @5 g; "+row.hooked+" @"+strconv.Itoa(count)+"; }", rows)
	}
}

// P12.1: functions: parameters in their order, results, bodies without statements.
func TestFunctions(t *testing.T) {
	tells(t, "fn main() { }", "fn main() { @1; @2; }", []api.Hook{{Kind: api.EvCall, Node: 1, Name: "main"}, {Kind: api.EvLeave, Node: 1}})
	tells(t, "fn f() { return; } fn main() { f(); }", "fn f() { @1; @2; return @3; @4; } fn main() { @5; @6; f(); @7; }",
		[]api.Hook{{Kind: api.EvCall, Node: 1, Name: "f"}, {Kind: api.EvStmt, Node: 3}, {Kind: api.EvReturn, Node: 3}, {Kind: api.EvLeave, Node: 1}, {Kind: api.EvCall, Node: 4, Name: "main"}, {Kind: api.EvStmt, Node: 6}, {Kind: api.EvLeave, Node: 4}})
	tells(t, "fn main() { } fn g(b: text, a: [int], main: bool) { { var a: int = 1; } }", "fn main() { @1; @2; } fn g(b: text, a: [int], main: bool) { @3; @4 b; @5 a; @6 main; { @7; @8; var a: int = 1; @9 a; @10; } @11; }",
		[]api.Hook{{Kind: api.EvCall, Node: 1, Name: "main"}, {Kind: api.EvLeave, Node: 1}, {Kind: api.EvCall, Node: 3, Name: "g"}, {Kind: api.EvSet, Node: 4, Name: "b"}, {Kind: api.EvSet, Node: 5, Name: "a"}, {Kind: api.EvSet, Node: 6, Name: "main"}, {Kind: api.EvEnter, Node: 8}, {Kind: api.EvStmt, Node: 9}, {Kind: api.EvSet, Node: 9, Name: "a"}, {Kind: api.EvExit, Node: 8}, {Kind: api.EvLeave, Node: 3}})
	tells(t, "fn h(a: int): int { if a > 0 { return h(a - 1); } else { return 0; } } fn main() { }", "fn h(a: int): int { @1; @2 a; @3; if a > 0 { @4; @5; return @6 h(a - 1); @7; } else { @8; @9; return @10 0; @11; } } fn main() { @12; @13; }",
		[]api.Hook{{Kind: api.EvCall, Node: 1, Name: "h"}, {Kind: api.EvSet, Node: 2, Name: "a"}, {Kind: api.EvStmt, Node: 4}, {Kind: api.EvEnter, Node: 8}, {Kind: api.EvStmt, Node: 9}, {Kind: api.EvReturn, Node: 9}, {Kind: api.EvExit, Node: 8}, {Kind: api.EvEnter, Node: 14}, {Kind: api.EvStmt, Node: 15}, {Kind: api.EvReturn, Node: 15}, {Kind: api.EvExit, Node: 14}, {Kind: api.EvCall, Node: 17, Name: "main"}, {Kind: api.EvLeave, Node: 17}})
}

// P12.1: every KHook has At 0, all other nodes keep theirs.
func TestPlaces(t *testing.T) {
	p := front(t, example)
	x, _, _ := Instrument(p)
	var places []int
	for _, node := range x.Nodes {
		if node.Kind == api.KHook && node.At != 0 {
			t.Errorf("a hook at %d", node.At)
		}
		if node.Kind != api.KHook {
			places = append(places, node.At)
		}
	}
	for n, node := range p.Tree.Nodes {
		if places[n] != node.At {
			t.Errorf("node %d is at %d, want %d", n, places[n], node.At)
		}
	}
}

// P12.2: hooks of any numbers and names, wherever they stand.
func TestErase(t *testing.T) {
	for _, row := range []struct {
		text, erased string
		count        int
	}{
		{"fn main() { }", "fn main() { }", 0},
		{"fn main() { @1; }", "fn main() { }", 1},
		{"fn main() { @7; { @8 x; return @9; } }", "fn main() { { return; } }", 3},
		{"fn main() { @40000; @40000; return @40000 1 + f(2); @1 main; }", "fn main() { return 1 + f(2); }", 4},
		{"fn f(a: int) { @1 a; if a { @2; } else if b { @2; } else { @3; @3; } while c { { @4; } @5; } for i = 1 to 2 { @6 i; } } fn g() { return @7; return; @8; } fn h() { }",
			"fn f(a: int) { if a { } else if b { } else { } while c { { } } for i = 1 to 2 { } } fn g() { return; return; } fn h() { }", 10},
		{"", "", 0},
	} {
		p := parsed(t, row.text)
		got, errno := Erase(p)
		if errno != api.OK || line(t, got) != row.erased || Count(p) != row.count || Count(got) != 0 {
			t.Errorf("%s: %d, %s; %d hooks, then %d", row.text, errno, line(t, got), Count(p), Count(got))
		}
		want := []api.Node{}
		for _, node := range p.Nodes {
			if node.Kind != api.KHook {
				want = append(want, node)
			}
		}
		for n, node := range got.Nodes {
			if node.At != want[n].At {
				t.Errorf("%s: node %d is at %d, want %d", row.text, n, node.At, want[n].At)
			}
		}
	}
}

// P12.2, P12.3: an expression has no hooks.
func TestExpressions(t *testing.T) {
	for _, text := range []string{"5", "x", "f(1, a[2])", `-len("@1;") * (new int[3])[0]`} {
		e, problem := parse.Expr(text)
		if problem.Code != api.OK {
			t.Fatal(text, problem)
		}
		got, errno := Erase(e)
		if errno != api.OK || !slices.Equal(got.Nodes, e.Nodes) || Count(e) != 0 {
			t.Errorf("%s: %d, %v", text, errno, got)
		}
	}
	one := []api.Node{{Kind: api.KInt, Int: 5, Size: 1}}
	if got, errno := Erase(api.Tree{Nodes: one}); errno != api.OK || !slices.Equal(got.Nodes, one) {
		t.Errorf("a number: %d, %v", errno, got)
	}
}

// noTrees is lists of nodes that are no trees, most of them with hooks.
func noTrees(t *testing.T) map[string]api.Tree {
	t.Helper()
	p := parsed(t, "fn main() { @1; { return @2; } @3; }")
	change := func(n int, do func(node *api.Node)) api.Tree {
		nodes := slices.Clone(p.Nodes)
		do(&nodes[n])
		return api.Tree{Nodes: nodes}
	}
	return map[string]api.Tree{
		"nothing":              {},
		"an empty list":        {Nodes: []api.Node{}},
		"a block":              {Nodes: []api.Node{{Kind: api.KBlock, Size: 1}}},
		"a hook alone":         {Nodes: []api.Node{{Kind: api.KHook, Int: 1, Size: 1}}},
		"a return alone":       {Nodes: []api.Node{{Kind: api.KReturn, Int: 1, Size: 1}}},
		"a program cut short":  {Nodes: p.Nodes[:len(p.Nodes)-1]},
		"a program and more":   {Nodes: append(slices.Clone(p.Nodes), api.Node{Kind: api.KHook, Int: 1, Size: 1})},
		"a hook too great":     change(3, func(node *api.Node) { node.Int = api.MaxTree + 1 }),
		"a hook of 0":          change(3, func(node *api.Node) { node.Int = 0 }),
		"a hook below 0":       change(3, func(node *api.Node) { node.Int = -1 }),
		"a hook's name":        change(3, func(node *api.Node) { node.Name = "if" }),
		"a return's number":    change(5, func(node *api.Node) { node.Int = -1 }),
		"no Size":              change(3, func(node *api.Node) { node.Size = 0 }),
		"a Size too great":     change(5, func(node *api.Node) { node.Size++ }),
		"a Size far too great": change(0, func(node *api.Node) { node.Size = 1<<63 - 1 }),
		"a Size below 0":       change(4, func(node *api.Node) { node.Size = -1 << 63 }),
		"an At below 0":        change(6, func(node *api.Node) { node.At = -1 }),
		"a kind that is none":  change(3, func(node *api.Node) { node.Kind = 17 }),
		"nodes of no kind":     {Nodes: make([]api.Node, 100000)},
	}
}

// P12.1, P12.2, P12.3: where there is no tree.
func TestNoTrees(t *testing.T) {
	for what, p := range noTrees(t) {
		if got, errno := Erase(p); errno != api.ErrTree || len(got.Nodes) > 0 {
			t.Errorf("%s: Erase: %d, %v", what, errno, got)
		}
		if count := Count(p); count != 0 {
			t.Errorf("%s: %d hooks", what, count)
		}
		refuses(t, what, api.Program{Tree: p}, api.ErrArg)
	}
}

func refuses(t *testing.T, what string, p api.Program, want api.Errno) {
	t.Helper()
	x, rows, errno := Instrument(p)
	if errno != want || len(x.Nodes) > 0 || len(rows) > 0 {
		t.Errorf("%s: %d, %d nodes, %d rows", what, errno, len(x.Nodes), len(rows))
	}
}

// P12.1: a program that has hooks takes no more.
func TestHooked(t *testing.T) {
	for _, text := range []string{
		"fn main() { @1; }", "fn main() { var x: int = 1; @1 x; }", "fn main() { return @1; }", "fn f(): int { return @40000 1; } fn main() { }",
		"fn f() { while true { { @7; } } } fn main() { }",
	} {
		p, problem := flow.Tree(parsed(t, text))
		if problem.Code != api.OK {
			t.Fatal(text, problem)
		}
		refuses(t, text, p, api.ErrArg)
		bare, errno := Erase(p.Tree)
		if errno != api.OK {
			t.Fatal(text, errno)
		}
		p, problem = flow.Tree(bare)
		if _, _, errno := Instrument(p); problem.Code != api.OK || errno != api.OK {
			t.Errorf("%s, erased: %d", text, errno)
		}
	}
	x, _, _ := Instrument(front(t, example))
	p, _ := flow.Tree(x)
	refuses(t, "a tree with hooks", p, api.ErrArg)
}

// P12.1: a program in which anything else is said than the front says is no checked one; the text does not count.
func TestUnchecked(t *testing.T) {
	for what, change := range map[string]func(p *api.Program){
		"all":                    func(p *api.Program) { *p = api.Program{} },
		"all but the text":       func(p *api.Program) { *p = api.Program{Text: p.Text} },
		"all but the tree":       func(p *api.Program) { *p = api.Program{Tree: p.Tree} },
		"the types":              func(p *api.Program) { p.Types = nil },
		"the meanings":           func(p *api.Program) { p.Scoped = api.Scoped{} },
		"a node's size":          func(p *api.Program) { p.Tree.Nodes[0].Size++ },
		"a name":                 func(p *api.Program) { p.Tree.Nodes[15].Name = "y" },
		"the result":             func(p *api.Program) { p.Tree.Nodes[1].Type = "" },
		"a node too few":         func(p *api.Program) { p.Tree.Nodes = p.Tree.Nodes[:16] },
		"a node's slot":          func(p *api.Program) { p.Scoped.Slots[15]++ },
		"a call":                 func(p *api.Program) { p.Scoped.Calls[9] = 1 },
		"a target":               func(p *api.Program) { p.Scoped.Targets[3] = 0 },
		"an owner":               func(p *api.Program) { p.Scoped.Owners[3] = 1 },
		"a function's slots":     func(p *api.Program) { p.Scoped.Funcs[1].Slots++ },
		"a function's variables": func(p *api.Program) { p.Scoped.Funcs[1].Vars = nil },
		"functions swapped":      func(p *api.Program) { slices.Reverse(p.Scoped.Funcs) },
		"a type":                 func(p *api.Program) { p.Types[10] = "bool" },
		"a type of a statement":  func(p *api.Program) { p.Types[0] = "int" },
		"a type too many":        func(p *api.Program) { p.Types = append(p.Types, "") },
		"a type too few":         func(p *api.Program) { p.Types = p.Types[:16] },
		"a lone expression":      func(p *api.Program) { p.Tree.Nodes = []api.Node{{Kind: api.KInt, Size: 1}} },
	} {
		p := front(t, example)
		change(&p)
		refuses(t, what, p, api.ErrArg)
	}
	// A tree that is right in all but the ways.
	p := front(t, "fn f(): int { return 1; } fn main() { }")
	p.Tree.Nodes = slices.Delete(p.Tree.Nodes, 3, 5)
	p.Tree.Nodes[0].Size, p.Tree.Nodes[1].Size, p.Tree.Nodes[2].Size = 5, 2, 1
	refuses(t, "a way without return", p, api.ErrArg)
	p = front(t, example)
	for _, text := range []string{"", "fn", strings.Repeat("@", 1<<20)} {
		p.Text = text
		if _, rows, errno := Instrument(p); errno != api.OK || len(rows) != 13 {
			t.Errorf("another text: %d", errno)
		}
	}
}
