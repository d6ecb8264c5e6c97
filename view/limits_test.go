package view

import (
	"slices"
	"strconv"
	"strings"
	"testing"

	"retrace/api"
	"retrace/flow"
	"retrace/walk"
)

// sized gives the nodes of a tree their Sizes, from how many kids each has.
func sized(nodes []api.Node, kids []int) api.Tree {
	var waiting []int // the nodes whose subtrees have been passed, the next kid last
	for n := len(nodes) - 1; n >= 0; n-- {
		nodes[n].Size = 1
		for range kids[n] {
			last := len(waiting) - 1
			nodes[n].Size += nodes[waiting[last]].Size
			waiting = waiting[:last]
		}
		waiting = append(waiting, n)
	}
	return api.Tree{Nodes: nodes}
}

// deepBlocks is the tree of main with so many blocks in one another, the innermost with a print.
func deepBlocks(depth int) api.Tree {
	nodes := []api.Node{{Kind: api.KProgram}, {Kind: api.KFunc, Name: "main"}, {Kind: api.KBlock}}
	kids := []int{1, 1, 1}
	for range depth {
		nodes, kids = append(nodes, api.Node{Kind: api.KBlock}), append(kids, 1)
	}
	nodes = append(nodes, api.Node{Kind: api.KPrint}, api.Node{Kind: api.KInt})
	return sized(nodes, append(kids, 1, 0))
}

// elses is the tree of main with a chain of ifs behind elses.
func elses(count int) api.Tree {
	nodes := []api.Node{{Kind: api.KProgram}, {Kind: api.KFunc, Name: "main"}, {Kind: api.KBlock}}
	kids := []int{1, 1, 1}
	for n := range count {
		nodes = append(nodes, api.Node{Kind: api.KIf}, api.Node{Kind: api.KBool}, api.Node{Kind: api.KBlock})
		more := 3
		if n == count-1 {
			more = 2
		}
		kids = append(kids, more, 0, 0)
	}
	return sized(nodes, kids)
}

func ofTree(t *testing.T, tree api.Tree) api.Program {
	t.Helper()
	p, problem := flow.Tree(tree)
	if problem.Code != api.OK {
		t.Fatal(problem)
	}
	return p
}

// P18.7: as many blocks in one another as a tree may have: they are entered, left at once, and entered anew.
func TestDeepBlocks(t *testing.T) {
	const depth = api.MaxTree - 5
	p := ofTree(t, deepBlocks(depth))
	if len(p.Tree.Nodes) != api.MaxTree {
		t.Fatal(len(p.Tree.Nodes))
	}
	v, _ := New(p)
	take := func(e api.Event, want api.Errno) {
		t.Helper()
		if errno := v.Take(e); errno != want {
			t.Fatalf("%v: %d", e, errno)
		}
	}
	take(call(1, "main"), api.OK)
	for range 2 {
		for n := range depth {
			take(stmt(3+depth), api.ErrFold)
			take(enter(3+n), api.OK)
		}
		take(stmt(3+depth), api.OK)
		take(exit(3+depth/2), api.OK)
		take(exit(3+depth/2), api.ErrFold)
		take(stmt(3+depth), api.ErrFold)
		take(exit(3), api.OK)
	}
	take(enter(4), api.ErrFold)
	if v.Count() != 1+2*(depth+3) || told(v) != "0 at "+strconv.Itoa(3+depth) {
		t.Errorf("%d, %s", v.Count(), told(v))
	}
	take(leave(1), api.OK)
}

// P18.7: a long chain of ifs behind elses: all their blocks are the body's.
func TestManyElses(t *testing.T) {
	const count = (api.MaxTree - 3) / 3
	p := ofTree(t, elses(count))
	v, _ := New(p)
	v.Take(call(1, "main"))
	if v.Take(stmt(3)) != api.OK {
		t.Fatal("the first if is refused")
	}
	for n := range count {
		if n > 0 && v.Take(stmt(3+3*n)) != api.ErrFold {
			t.Fatalf("if %d behind an else begins", n)
		}
		if block := 5 + 3*n; v.Take(enter(block)) != api.OK || n%2 == 0 && v.Take(exit(block)) != api.OK {
			t.Fatalf("block %d", block)
		}
	}
	if run, _ := walk.Run(p, nil, api.Limits{Depth: 1}, 100); len(run.Events) == 0 {
		t.Fatal("no run")
	}
}

// P18.7: more frames than any run may have: nothing limits them here.
func TestManyFrames(t *testing.T) {
	count := 300000
	if testing.Short() {
		count = 3000
	}
	p := front(t, "fn main() { main(); }")
	v, _ := New(p)
	for range count {
		if v.Take(call(1, "main")) != api.OK || v.Take(stmt(3)) != api.OK {
			t.Fatal(v.Count())
		}
	}
	frames := v.Frames()
	if v.Depth() != count || len(frames) != count || frames[0].Node != 3 || v.Count() != 2*count {
		t.Errorf("%d frames, %d told", v.Depth(), len(frames))
	}
	w := v.Clone()
	for range count {
		if v.Take(leave(1)) != api.OK {
			t.Fatal(v.Count())
		}
	}
	if v.Depth() != 0 || v.Take(call(1, "main")) != api.ErrFold || w.Depth() != count {
		t.Errorf("%d, %d", v.Depth(), w.Depth())
	}
}

// P18.4: as many variables as a function may have, of one name in each of two blocks.
func TestManyVariables(t *testing.T) {
	var text strings.Builder
	declare := func() {
		for n := range 125 {
			text.WriteString("var v" + strconv.Itoa(n) + ": int = " + strconv.Itoa(n) + "; ")
		}
	}
	text.WriteString("fn main() { ")
	declare()
	text.WriteString("{ ")
	declare()
	text.WriteString("print 1; } print 1; }")
	p := front(t, text.String())
	run, _ := walk.Run(p, nil, api.Limits{Depth: 1}, 10000)
	v, depth := follow(t, p, run.Events)
	if run.Outcome.Phase != api.Ended || depth != 0 || v.Count() != 2*250+6 {
		t.Errorf("%v, %d, %d", run.Outcome, depth, v.Count())
	}
	inner, _ := New(p)
	for _, e := range run.Events[:1+250+1+250] {
		inner.Take(e)
	}
	if shown := inner.Frames()[0].Vars; len(shown) != 125 || shown[0].Var.Slot != 125 || shown[124].Value != i(124) {
		t.Errorf("%v", shown)
	}
}

// P18.2: as many parameters as a function may have, each by its place.
func TestManyParameters(t *testing.T) {
	p := front(t, "fn f(a: int, b: bool, c: text, d: [int], e: int, f: bool, g: text, h: [[text]]) { } fn main() { print 1; }")
	v, _ := New(p)
	for _, e := range []api.Event{call(11, "main"), stmt(13), call(1, "f")} {
		if v.Take(e) != api.OK {
			t.Fatal(e)
		}
	}
	values := []api.Value{i(1), b(1), x("c"), r(1), i(2), b(0), x("g"), r(2)}
	for at, right := range values {
		for n := range 8 {
			name := string(rune('a' + n))
			for _, v2 := range values {
				if n == at && v2.Kind == right.Kind {
					continue
				}
				if v.Take(set(2+n, name, v2)) != api.ErrFold {
					t.Fatalf("parameter %d is taken as number %d with %v", n, at, v2)
				}
			}
		}
		if v.Take(leave(1)) != api.ErrFold || v.Take(set(2+at, string(rune('a'+at)), right)) != api.OK {
			t.Fatalf("parameter %d", at)
		}
	}
	got := v.Frames()[0].Vars
	if !slices.EqualFunc(got, values, func(s api.Shown, v api.Value) bool { return s.Value == v }) || v.Take(leave(1)) != api.OK {
		t.Errorf("%v", got)
	}
}

// P18.7: a long run: each event is taken as quickly as the first.
func TestLongRun(t *testing.T) {
	count := 400000
	if testing.Short() {
		count = 4000
	}
	p := front(t, `fn f(n: int): int { if n < 2 { return n; } return f(n - 1) + f(n - 2); } fn main() { var t: text = ""; for i = 1 to 100 { var k: int = f(i); t = str(k); } }`)
	run, _ := walk.Run(p, nil, api.Limits{Depth: 200}, count)
	v, _ := New(p)
	for at, e := range run.Events {
		if v.Take(e) != api.OK {
			t.Fatalf("event %d: %v", at+1, e)
		}
	}
	if v.Count() != count || v.Depth() < 2 {
		t.Errorf("%d, %d", v.Count(), v.Depth())
	}
}
