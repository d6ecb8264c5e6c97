package flow

import (
	"fmt"
	"math/rand"
	"slices"
	"strings"
	"testing"

	"retrace/api"
	"retrace/parse"
	"retrace/tree"
)

// told tells all of an answer; an empty list and none are one.
func told(answer any) string {
	return fmt.Sprintf("%+v", answer)
}

func dump(t api.Tree) string {
	text, _ := tree.Dump(t)
	if len(text) > 3000 {
		text = text[:3000] + ".."
	}
	return text
}

func parsed(t *testing.T, source string) api.Tree {
	t.Helper()
	p, problem := parse.Program(source)
	if problem.Code != api.OK {
		t.Fatalf("the source %q: %v", source, problem)
	}
	return p
}

// unmark takes the marks ^ out of a text and tells where they stood in what is left.
func unmark(marked string) (source string, marks []int) {
	pieces := strings.Split(marked, "^")
	end := 0
	for _, piece := range pieces[:len(pieces)-1] {
		end += len(piece)
		marks = append(marks, end)
	}
	return strings.Join(pieces, ""), marks
}

// takes checks that Check has nothing to say of a source.
func takes(t *testing.T, source string, hooks bool) {
	t.Helper()
	if problem := Check(parsed(t, source), hooks); problem != (api.Problem{}) {
		t.Errorf("%q, hooks %v: %v", source, hooks, problem)
	}
}

// refuses checks that Check tells the problem with its offset at the mark.
func refuses(t *testing.T, marked string, hooks bool, errno api.Errno) {
	t.Helper()
	source, marks := unmark(marked)
	if problem := Check(parsed(t, source), hooks); problem != (api.Problem{Code: errno, At: marks[0]}) {
		t.Errorf("%q, hooks %v: %v, want %d at %d", source, hooks, problem, errno, marks[0])
	}
}

// dies checks that just the marked statements of a source are dead.
func dies(t *testing.T, marked string) {
	t.Helper()
	source, marks := unmark(marked)
	p := parsed(t, source)
	var ats []int
	for _, n := range Dead(p) {
		ats = append(ats, p.Nodes[n].At)
	}
	if !slices.Equal(ats, marks) {
		t.Errorf("%q: dead at %v, want %v", source, ats, marks)
	}
}

// holds checks all that is said of a tree's ways against the chapter's words.
func holds(t *testing.T, p api.Tree) {
	t.Helper()
	for _, hooks := range []bool{false, true} {
		if got, wanted := Check(p, hooks), wantCheck(p, hooks); got != wanted {
			t.Fatalf("hooks %v: %v, want %v of\n%s", hooks, got, wanted, dump(p))
		}
	}
	for n := -1; n <= len(p.Nodes); n++ {
		if got, wanted := Ends(p, n), wantEnds(p, n); got != wanted {
			t.Fatalf("node %d ends: %v, want %v of\n%s", n, got, wanted, dump(p))
		}
	}
	if got, wanted := Dead(p), wantDead(p); !slices.Equal(got, wanted) {
		t.Fatalf("dead %v, want %v of\n%s", got, wanted, dump(p))
	}
}

// P8.1, P8.3: the chapter's examples.
func TestExamples(t *testing.T) {
	refuses(t, "^fn f(): int { while true { return 1; } } fn main() {}", false, api.ErrReturn)
	takes(t, "fn f(a: bool): int { if a { return 1; } else { { return 2; } } } fn main() {}", false)
	refuses(t, "^fn f(): int { return 1; print 2; } fn main() {}", false, api.ErrReturn)
	refuses(t, "fn main() { ^return 1; }", false, api.ErrReturn)
	refuses(t, "fn f(): int { ^return; } fn main() {}", false, api.ErrReturn)
	refuses(t, "fn main() { ^@1; return @2; }", false, api.ErrHook)
	takes(t, "fn main() { @1; return @2; }", true)
	dies(t, "fn f(): int { return 1; ^print 2; } fn main() {}")
	dies(t, "fn main() { while true { break; ^print 1; ^{ print 2; } } print 3; }")
}

// P8.1, P8.2, P8.8: what returns, and what can end, by the statement alone: ahead of each stands whether it returns (r), cannot end (x), or can end (e).
func TestStatements(t *testing.T) {
	for _, row := range []string{
		"r return 1;", "r return @3 1;",
		"x break;", "x break l;", "x continue;", "x continue l;",
		"e print 1;", "e var y: int = 1;", "e x = 1;", "e read x;", "e f(1);", "e @1;", "e @1 x;",
		"e {}", "e { @1; }", "e {{}}", "e { print 1; }", "e { {} print 1; @1; {} }",
		"r { return 1; }", "r { print 1; return 1; }", "r { return 1; @1; }", "r { @1; return 1; @1; @2; }", "r {{{ return 1; }}}", "r { { return 1; } @1; }",
		"r { return 1; return 1; }", "r { print 1; break; return 1; }", "r { return 1; { print 1; return 1; } }",
		"x { return 1; print 1; }", "x { return 1; {} }", "x { {return 1;} {@1;} }", "x { return 1; break; }",
		"x { break; }", "x { print 1; continue; print 1; }", "x { print 1; { print 1; break; } print 1; }", "x { { { break; } } @1; }",
		"e if true {}", "e if true { return 1; }", "e if true { break; }",
		"e if true {} else {}", "e if true { return 1; } else {}", "e if true {} else { return 1; }", "e if true { break; } else { @1; }", "e if true { print 1; } else { continue; }",
		"r if true { return 1; } else { return 1; }", "r if true { { return 1; @1; } } else { @2; return 1; @1; }",
		"x if true { break; } else { return 1; }", "x if true { return 1; } else { continue; }", "x if true { break; } else { break; }", "x if true { return 1; } else { return 1; print 1; }",
		"r if true { return 1; } else if true { return 1; } else { return 1; }",
		"e if true { return 1; } else if true { return 1; }", "e if true { return 1; } else if true { return 1; } else {}", "e if true { return 1; } else if true {} else { return 1; }", "e if true {} else if true { return 1; } else { return 1; }",
		"x if true { return 1; } else if true { break; } else { return 1; }", "x if true { break; } else if true { break; } else { break; }",
		"r if true { if true { return 1; } else { return 1; } } else { return 1; }", "e if true { if true { return 1; } } else { return 1; }",
		"e while true {}", "e while true { return 1; }", "e while true { break; }", "e while true { while true { return 1; } return 1; }",
		"e for i = 1 to 2 {}", "e for i = 1 to 2 { return 1; }", "e for i = 1 to 2 { continue; }", "e m: while true { break m; }",
		"e { while true { return 1; } }", "r { while true { return 1; } return 1; }", "x { while true {} break; while true {} }",
	} {
		kind, statement := row[0], row[2:]
		p := parsed(t, "fn f(x: int): int { l: while true { "+statement+" } return 1; } fn main() {}")
		const first = 7 // behind the program, f, x, the body, the while, its condition and its block
		if got := Ends(p, first); got != (kind == 'e') {
			t.Errorf("%s: ends: %v", statement, got)
		}
		// The body of a function with a result is asked whether it returns.
		for _, form := range []string{"S", "@2; S @1;", "{ S }", "print 1; S", "if true { S } else { S }"} {
			body := strings.ReplaceAll(form, "S", statement)
			p := parsed(t, "fn main() {} fn f(x: int): int { "+body+" }")
			wanted := api.Problem{}
			if kind != 'r' {
				wanted = api.Problem{Code: api.ErrReturn, At: 13}
			}
			if got := Check(p, true); got != wanted {
				t.Errorf("%s: %v, want %v", body, got, wanted)
			}
		}
	}
}

// P8.1: each node that something is said of, and each that nothing is said of.
func TestCheck(t *testing.T) {
	for _, source := range []string{
		"", "fn main() {}", "fn main() { return; }", "fn main() { while true { return; } print 1; return; print 2; }",
		"fn f(): int { return 1; } fn main() { print f(); return; }",
		"fn f(a: int, b: int): int { return a; } fn g() { return; } fn h(): [bool] { return new bool[1]; }",
		"fn f(): int { while true { return 1; } return 2; }",
		// What the types and names say is not asked here.
		"fn f(): int { return true; } fn f(): bool { break; x = 1; return y; }", "fn main(a: int): int { return 1; }",
	} {
		takes(t, source, false)
		takes(t, source, true)
	}
	for _, source := range []string{
		"fn main() { @1; }", "fn main() { var x: int = 1; @1 x; @40000; }", "fn main() { return @1; }", "fn main() { return @40000; }",
		"fn f(): int { return @1 2; @2; } fn main() {}", "fn f(): int { @1; if true { @3; return @1 2; @4; } else { return 1; } @2; } fn main() {}",
	} {
		takes(t, source, true)
	}
	for _, hooks := range []bool{false, true} {
		for _, marked := range []string{
			"^fn f(): int {}", "fn main() {} ^fn f(a: int): bool { {} }", "^fn main(): int { print 1; }",
			"^fn f(): text { if true { return \"\"; } }", "^fn f(): [int] { for i = 1 to 2 { return new int[1]; } }",
			"fn main() { ^return 1; }", "fn main() { return; ^return 1; return 2; }", "fn main() { while true { if true {} else { ^return 1; } } }",
			"fn f(): int { ^return; }", "fn f(): int { while true { ^return; } return 1; }", "fn f(): int { if true { return 1; } else { ^return; } }",
			// The function's own result counts, not another one's.
			"fn f(): int { return 1; } fn main() { ^return 1; }", "fn main() { return; } fn f(): int { ^return; }", "fn g() {} fn f(): int { return 1; } fn h() { return; } fn k() { ^return 1; }",
			// The first by its number.
			"^fn f(): int { return; print 1; }", "^fn f(): int { } fn g(): int { return; }", "fn f(): int { ^return; } fn g(): int { }", "fn main() { ^return 1; } fn g(): int { }",
			"^fn f(): int { while true { return; } }", "fn f() { ^return 1; } fn g() { return 1; }", "fn f(): int { ^return; } fn g() { return 1; }",
			// A type that does not fit is no matter here, a value where none may be is.
			"fn f(): int { return true; } fn main() { ^return x; }",
		} {
			refuses(t, marked, hooks, api.ErrReturn)
		}
	}
}

// P8.1: hooks and returns at one node, and ahead of one another.
func TestHookOrReturn(t *testing.T) {
	refuses(t, "fn main() { ^return @1 2; }", false, api.ErrHook)
	refuses(t, "fn main() { ^return @1 2; }", true, api.ErrReturn)
	refuses(t, "fn f(): int { ^return @1; }", false, api.ErrHook)
	refuses(t, "fn f(): int { ^return @1; }", true, api.ErrReturn)
	refuses(t, "^fn f(): int { @1; }", false, api.ErrReturn)
	refuses(t, "^fn f(): int { @1; }", true, api.ErrReturn)
	refuses(t, "fn main() { ^@1; return 1; }", false, api.ErrHook)
	refuses(t, "fn main() { @1; ^return 1; }", true, api.ErrReturn)
	refuses(t, "fn main() { ^return 1; @1; }", false, api.ErrReturn)
	refuses(t, "fn main() { ^return 1; @1; }", true, api.ErrReturn)
	refuses(t, "fn main() { ^@1; } fn f(): int {}", false, api.ErrHook)
	refuses(t, "fn main() { @1; } ^fn f(): int {}", true, api.ErrReturn)
	refuses(t, "fn f(): int { ^return @1 2; } fn g() { return 1; }", false, api.ErrHook)
	refuses(t, "fn f(): int { return @1 2; } fn g() { ^return 1; }", true, api.ErrReturn)
	for _, marked := range []string{"fn main() { ^return @2; @1; }", "fn main() { { ^@2; } return @1; }", "fn f(): int { return 1; ^@2; } fn g() {}", "fn main() { while true { ^@1 x; @2; } }"} {
		refuses(t, marked, false, api.ErrHook)
		source, _ := unmark(marked)
		takes(t, source, true)
	}
}

// P8.2: of what is no statement nothing ends, whatever stands in it.
func TestEndsOfNoStatement(t *testing.T) {
	p := parsed(t, `fn f(a: int): int { return a; } fn main() { var x: [int] = new int[2]; x[0] = -1; l: while !true { break l; } for i = 1 to 2 { continue; } print "a", len(x), str(1 + 2); read x[0]; f(1); @1; if true {} else if false {} }`)
	kinds := map[api.Kind]int{}
	for n, node := range p.Nodes {
		kinds[node.Kind]++
		isStatement := node.Kind == api.KBlock || api.KVar <= node.Kind && node.Kind <= api.KHook
		if got := Ends(p, n); got && !isStatement {
			t.Errorf("node %d, a %d, ends", n, node.Kind)
		}
		switch node.Kind {
		case api.KVar, api.KAssign, api.KIf, api.KWhile, api.KFor, api.KPrint, api.KRead, api.KDo, api.KHook:
			if !Ends(p, n) {
				t.Errorf("node %d, a %d, does not end", n, node.Kind)
			}
		case api.KReturn, api.KBreak, api.KContinue:
			if Ends(p, n) {
				t.Errorf("node %d, a %d, ends", n, node.Kind)
			}
		}
	}
	if len(kinds) != 27 {
		t.Errorf("%d kinds were asked", len(kinds))
	}
	for _, n := range []int{-1 << 63, -2, -1, len(p.Nodes), len(p.Nodes) + 1, 1<<63 - 1} {
		if Ends(p, n) {
			t.Errorf("node %d, which is none, ends", n)
		}
	}
}

// P8.3: what is dead and what is not.
func TestDead(t *testing.T) {
	for _, marked := range []string{
		"", "fn main() {}", "fn main() { return; }", "fn main() { print 1; return; } fn f() { print 2; }",
		"fn main() { return; ^print 1; } fn f() { print 2; }", "fn f() { break; ^break; ^break; } fn main() { continue; ^print 1; ^return; ^print 2; }",
		// All behind the first one that cannot end, not that one itself, hooks passed over.
		"fn main() { @1; print 1; @2; return; @3; ^print 2; @4; ^{} @5; }", "fn main() { return; @1; }", "fn main() { @1; @2 x; print 1; }",
		// Within a dead block only what its own statements make dead.
		"fn main() { return; ^{ print 1; { print 2; } } ^{ print 1; return; ^print 2; ^{ print 3; } } }",
		"fn main() { return; ^while true { print 1; break; ^print 2; } ^if true { return; ^print 3; } else { print 4; } }",
		// A block's own stand behind those within it.
		"fn main() { { return; ^print 1; } ^print 2; ^{ return; ^print 3; } ^print 4; }",
		"fn main() { if true { return; ^print 1; } else { break; ^print 2; } ^print 3; }",
		"fn main() { if true { return; } else if true { break; } else { continue; } ^print 1; }",
		// What may be passed by.
		"fn main() { if true { return; } print 1; }", "fn main() { if true { return; } else {} print 1; }", "fn main() { if true {} else { return; } print 1; }",
		"fn main() { if true { return; } else if true { return; } print 1; }",
		"fn main() { while true { return; } print 1; }", "fn main() { for i = 1 to 2 { return; ^print 1; } print 2; }", "fn main() { l: while true { while true { break l; ^print 0; } print 1; } print 2; }",
		// An if behind an else, and a loop's or an if's block, stand in no block.
		"fn main() { return; ^if true { } else if true { } else { } }",
	} {
		dies(t, marked)
	}
}

// notPrograms is lists of nodes that are no program's tree.
func notPrograms(t *testing.T) map[string]api.Tree {
	t.Helper()
	expr, problem := parse.Expr("f(1) + x")
	if problem.Code != api.OK {
		t.Fatal(problem)
	}
	p := parsed(t, "fn f(): int { return 1; } fn main() { if true { return; } print 1; }")
	change := func(n int, do func(node *api.Node)) api.Tree {
		nodes := slices.Clone(p.Nodes)
		do(&nodes[n])
		return api.Tree{Nodes: nodes}
	}
	return map[string]api.Tree{
		"nothing":              {},
		"an empty list":        {Nodes: []api.Node{}},
		"an expression":        expr,
		"a number":             {Nodes: []api.Node{{Kind: api.KInt, Size: 1}}},
		"a block":              {Nodes: []api.Node{{Kind: api.KBlock, Size: 1}}},
		"a return":             {Nodes: []api.Node{{Kind: api.KReturn, Size: 1}}},
		"a function":           {Nodes: p.Nodes[1 : 1+p.Nodes[1].Size]},
		"a program cut short":  {Nodes: p.Nodes[:len(p.Nodes)-1]},
		"a program and more":   {Nodes: append(slices.Clone(p.Nodes), api.Node{Kind: api.KReturn, Size: 1})},
		"no Size":              change(2, func(node *api.Node) { node.Size = 0 }),
		"a Size too great":     change(2, func(node *api.Node) { node.Size++ }),
		"a Size far too great": change(0, func(node *api.Node) { node.Size = 1 << 40 }),
		"a Size below 0":       change(4, func(node *api.Node) { node.Size = -1 }),
		"an At below 0":        change(3, func(node *api.Node) { node.At = -1 }),
		"a hook too great":     change(3, func(node *api.Node) { node.Int = api.MaxTree + 1 }),
		"a kind that is none":  change(3, func(node *api.Node) { node.Kind = 0 }),
		"another type":         change(1, func(node *api.Node) { node.Type = "real" }),
	}
}

// P8.1, P8.2, P8.3: where there is no program's tree.
func TestNoProgram(t *testing.T) {
	for what, p := range notPrograms(t) {
		for _, hooks := range []bool{false, true} {
			if got := Check(p, hooks); got != (api.Problem{Code: api.ErrTree}) {
				t.Errorf("%s: %v", what, got)
			}
		}
		for n := range p.Nodes {
			if Ends(p, n) {
				t.Errorf("%s: node %d ends", what, n)
			}
		}
		if Ends(p, 0) || len(Dead(p)) > 0 {
			t.Errorf("%s: %v are dead", what, Dead(p))
		}
	}
}

// bodies is all lists of statements that are made of so many parts.
func bodies(count int) [][]*knot {
	lists := [][][]*knot{{nil}}
	for size := 1; size <= count; size++ {
		var longer [][]*knot
		for first := 1; first <= size; first++ {
			for _, s := range statementsOf(first, lists) {
				for _, rest := range lists[size-first] {
					longer = append(longer, append([]*knot{s}, rest...))
				}
			}
		}
		lists = append(lists, longer)
	}
	return slices.Concat(lists...)
}

// statementsOf is all statements that are made of so many parts, by the lists of fewer.
func statementsOf(count int, lists [][][]*knot) []*knot {
	if count == 1 {
		return []*knot{
			tie(api.Node{Kind: api.KReturn}, number()),
			tie(api.Node{Kind: api.KBreak}),
			tie(api.Node{Kind: api.KHook, Int: 1}),
			tie(api.Node{Kind: api.KPrint}, number()),
			block(),
		}
	}
	var all []*knot
	for _, inner := range lists[count-1] {
		all = append(all, block(inner...),
			tie(api.Node{Kind: api.KIf}, truth(), block(inner...)),
			tie(api.Node{Kind: api.KWhile}, truth(), block(inner...)))
	}
	for one := 0; one <= count-1; one++ {
		for _, first := range lists[one] {
			for _, second := range lists[count-1-one] {
				all = append(all, tie(api.Node{Kind: api.KIf}, truth(), block(first...), block(second...)))
				if len(second) > 0 {
					other := tie(api.Node{Kind: api.KIf}, truth(), block(second[:1]...), block(second[1:]...))
					all = append(all, tie(api.Node{Kind: api.KIf}, truth(), block(first...), other))
				}
			}
		}
	}
	return all
}

// P8.1, P8.2, P8.3, P8.8: all small bodies.
func TestSmallBodies(t *testing.T) {
	count := 5
	if testing.Short() {
		count = 4
	}
	taken := 0
	for _, body := range bodies(count) {
		p := program(function("f", "int", body...), function("main", "")).tree()
		holds(t, p)
		if Check(p, true).Code == api.OK {
			taken++
			if Ends(p, 2) {
				t.Fatalf("the body returns and can end:\n%s", dump(p))
			}
		}
	}
	if taken < 50 {
		t.Errorf("only %d bodies return", taken)
	}
}

// P8.1, P8.2, P8.3: grown programs, right and wrong ones.
func TestGrown(t *testing.T) {
	codes := map[api.Errno]int{}
	for i := range 2400 {
		g := &grower{Rand: rand.New(rand.NewSource(int64(i))), wild: []int{0, 30, 200}[i%3], hooks: i%2 == 0}
		p := g.program().tree()
		holds(t, p)
		codes[Check(p, false).Code]++
	}
	for _, errno := range []api.Errno{api.OK, api.ErrHook, api.ErrReturn} {
		if codes[errno] < 200 {
			t.Errorf("error %d was reached %d times only: %v", errno, codes[errno], codes)
		}
	}
}

// P8.1, P8.2, P8.3, P8.9: any field of any node of a tree changed.
func TestChangedTrees(t *testing.T) {
	codes := map[api.Errno]int{}
	for i := range 5000 {
		g := &grower{Rand: rand.New(rand.NewSource(int64(i))), wild: 100, hooks: i%3 > 0}
		nodes := g.program().tree().Nodes
		node := &nodes[g.Intn(len(nodes))]
		switch g.Intn(8) {
		case 0, 1:
			node.Kind = api.Kind(g.Intn(32) - 1)
		case 2:
			node.At = []int{-1, 0, 7, 1<<63 - 1}[g.Intn(4)]
		case 3:
			node.Name = []string{"", "v1", "main", "if"}[g.Intn(4)]
		case 4:
			node.Type = []string{"", "int", "[bool]", "none"}[g.Intn(4)]
		case 5:
			node.Int = int64(g.Intn(4) - 1)
		case 6:
			node.Size += g.Intn(5) - 2
		case 7:
			node.Size = []int{-1 << 63, -1, 0, 1<<63 - 1}[g.Intn(4)]
		}
		p := api.Tree{Nodes: nodes}
		holds(t, p)
		codes[Check(p, true).Code]++
	}
	for _, errno := range []api.Errno{api.OK, api.ErrTree, api.ErrReturn} {
		if codes[errno] < 200 {
			t.Errorf("error %d was reached %d times only: %v", errno, codes[errno], codes)
		}
	}
}

// P8.9: any lists of nodes.
func TestAnything(t *testing.T) {
	r := rand.New(rand.NewSource(1))
	programs := 0
	for range 100000 {
		nodes := make([]api.Node, r.Intn(9))
		for i := range nodes {
			nodes[i] = api.Node{Kind: api.Kind(r.Intn(32) - 1), Size: len(nodes) - i}
			if i < 3 && r.Intn(4) > 0 {
				nodes[i].Kind = []api.Kind{api.KProgram, api.KFunc, api.KBlock}[i]
			}
			if i >= 3 {
				nodes[i].Kind = api.Kind(4 + r.Intn(13))
				nodes[i].Size = 1 + r.Intn(2)
			}
			switch nodes[i].Kind {
			case api.KFunc:
				nodes[i].Name = "main"
				nodes[i].Type = []string{"", "int", "what"}[r.Intn(3)]
			case api.KHook:
				nodes[i].Int = int64(r.Intn(3))
			}
			if r.Intn(9) == 0 {
				nodes[i].Size = []int{-1 << 63, -1, 0, 2, 3, 1<<63 - 1}[r.Intn(6)]
			}
		}
		p := api.Tree{Nodes: nodes}
		holds(t, p)
		if Check(p, true).Code != api.ErrTree {
			programs++
		}
	}
	if programs < 500 {
		t.Errorf("only %d were programs", programs)
	}
}
