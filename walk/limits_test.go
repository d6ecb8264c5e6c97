package walk

import (
	"strconv"
	"strings"
	"testing"

	"retrace/api"
	"retrace/flow"
)

// mainOf is the checked program of one function, its body's statements as a list of nodes.
func mainOf(t *testing.T, statements []api.Node) api.Program {
	t.Helper()
	size := len(statements)
	head := []api.Node{{Kind: api.KProgram, Size: size + 3}, {Kind: api.KFunc, Name: "main", Size: size + 2}, {Kind: api.KBlock, Size: size + 1}}
	return checked(t, append(head, statements...))
}

func checked(t *testing.T, nodes []api.Node) api.Program {
	t.Helper()
	p, problem := flow.Tree(api.Tree{Nodes: nodes})
	if problem.Code != api.OK {
		t.Fatal(problem)
	}
	return p
}

// around lays so many parts around one another, each with nodes of its own ahead of the next one and behind it; the first node of the part is around all, the last one ahead, if it is a block, around what is within.
func around(count int, ahead, behind, inner []api.Node) []api.Node {
	var nodes []api.Node
	for range count {
		nodes = append(nodes, ahead...)
	}
	nodes = append(nodes, inner...)
	for i := count - 1; i >= 0; i-- {
		first := i * len(ahead)
		last := first + len(ahead) - 1
		if last > first && nodes[last].Kind == api.KBlock {
			nodes[last].Size = len(nodes) - last
		}
		nodes = append(nodes, behind...)
		nodes[first].Size = len(nodes) - first
	}
	return nodes
}

func under(node api.Node, kids ...[]api.Node) []api.Node {
	nodes := []api.Node{node}
	for _, kid := range kids {
		nodes = append(nodes, kid...)
	}
	nodes[0].Size = len(nodes)
	return nodes
}

func leaf(kind api.Kind, n int64) []api.Node {
	return []api.Node{{Kind: kind, Int: n, Size: 1}}
}

// P11.5, P11.10: expressions nested as deep as a tree can be.
func TestDeepExpressions(t *testing.T) {
	plus := api.Node{Kind: api.KBinary, Op: api.OpAdd}
	var lengths []api.Node
	for size := 26001; size > 1; size -= 2 {
		lengths = append(lengths, api.Node{Kind: api.KLen, Size: size}, api.Node{Kind: api.KNew, Type: "int", Size: size - 1})
	}
	lengths = append(lengths, leaf(api.KInt, 2)...)
	for what, row := range map[string]struct {
		value  []api.Node
		output string
	}{
		"minus":      {around(39000, []api.Node{{Kind: api.KUnary, Op: api.OpNeg}}, nil, leaf(api.KInt, 5)), "5\n"},
		"not":        {around(38999, []api.Node{{Kind: api.KUnary, Op: api.OpNot}}, nil, leaf(api.KBool, 1)), "false\n"},
		"left sums":  {around(19000, []api.Node{plus}, leaf(api.KInt, 2), leaf(api.KInt, 5)), "38005\n"},
		"right sums": {around(19000, append([]api.Node{plus}, leaf(api.KInt, 3)...), nil, leaf(api.KInt, 5)), "57005\n"},
		"right ands": {around(19000, append([]api.Node{{Kind: api.KBinary, Op: api.OpAnd}}, leaf(api.KBool, 1)...), nil, leaf(api.KBool, 0)), "false\n"},
		"left ands":  {around(19000, []api.Node{{Kind: api.KBinary, Op: api.OpAnd}}, leaf(api.KBool, 1), leaf(api.KBool, 0)), "false\n"},
		"right ors":  {around(19000, append([]api.Node{{Kind: api.KBinary, Op: api.OpOr}}, leaf(api.KBool, 0)...), nil, leaf(api.KBool, 1)), "true\n"},
		"left ors":   {around(19000, []api.Node{{Kind: api.KBinary, Op: api.OpOr}}, leaf(api.KBool, 1), leaf(api.KBool, 0)), "true\n"},
		"strs":       {around(39000, []api.Node{{Kind: api.KStr}}, nil, leaf(api.KInt, 5)), "5\n"},
		"lengths":    {lengths, "2\n"},
	} {
		p := mainOf(t, under(api.Node{Kind: api.KPrint}, row.value))
		r, errno := Run(p, nil, api.Limits{Depth: 1, Cells: 50000}, 10)
		if errno != api.OK || r.Outcome.Phase != api.Ended || r.Output != row.output || r.Steps != 3 {
			t.Errorf("deep %s: %d, %v, %d, %q", what, errno, r.Outcome, r.Steps, r.Output)
		}
	}
}

// P11.5, P11.10: statements nested as deep as a tree can be, and jumps out of all of them.
func TestDeepStatements(t *testing.T) {
	yes, one := leaf(api.KBool, 1), leaf(api.KInt, 1)
	block := api.Node{Kind: api.KBlock, Size: 1}
	print := under(api.Node{Kind: api.KPrint}, one)
	back := leaf(api.KReturn, 0)
	while := append(append([]api.Node{{Kind: api.KWhile}}, yes...), block)
	elseIf := append([]api.Node{{Kind: api.KIf}}, append(leaf(api.KBool, 0), under(block, back)...)...)
	count := append([]api.Node{{Kind: api.KFor, Name: "i"}}, append(append(leaf(api.KInt, 1), one...), block)...)
	labelled := under(api.Node{Kind: api.KWhile, Label: "out"}, yes, under(block, around(12000, while, nil, []api.Node{{Kind: api.KBreak, Label: "out", Size: 1}})))
	for what, row := range map[string]struct {
		body   []api.Node
		events int
		output string
	}{
		"blocks":       {around(39000, []api.Node{block}, nil, print), 2 + 2*39000 + 1, "1\n"},
		"whiles":       {around(13000, while, nil, back), 1 + 2*13000 + 2, ""},
		"a break out":  {append(labelled, print...), 1 + 2*12001 + 1 + 2, "1\n"},
		"ifs":          {around(13000, append(append([]api.Node{{Kind: api.KIf}}, yes...), block), nil, print), 2 + 3*13000 + 1, "1\n"},
		"else ifs":     {around(9900, elseIf, nil, under(block, print)), 2 + 3 + 1, "1\n"},
		"fors":         {around(83, count, nil, print), 2 + 4*83 + 1, "1\n"},
		"empty blocks": {around(39000, []api.Node{block}, nil, nil), 2 + 2*39000, ""},
	} {
		r, errno := Run(mainOf(t, row.body), nil, api.Limits{Depth: 1}, 100000)
		if errno != api.OK || r.Outcome.Phase != api.Ended || r.Output != row.output || r.Steps != row.events {
			t.Errorf("deep %s: %d, %v, %d events, %q", what, errno, r.Outcome, r.Steps, r.Output)
		}
	}
}

// P11.10: many frames, each with much that is still to be done.
func TestDeepFrames(t *testing.T) {
	const parts = 15000
	call := under(api.Node{Kind: api.KCall, Name: "f"}, under(api.Node{Kind: api.KBinary, Op: api.OpSub}, []api.Node{{Kind: api.KName, Name: "n", Size: 1}}, leaf(api.KInt, 1)))
	sum := around(parts, append([]api.Node{{Kind: api.KBinary, Op: api.OpAdd}}, leaf(api.KInt, 1)...), nil, call)
	last := under(api.Node{Kind: api.KIf}, under(api.Node{Kind: api.KBinary, Op: api.OpEq}, []api.Node{{Kind: api.KName, Name: "n", Size: 1}}, leaf(api.KInt, 0)), under(api.Node{Kind: api.KBlock}, under(api.Node{Kind: api.KReturn}, leaf(api.KInt, 0))))
	f := under(api.Node{Kind: api.KFunc, Name: "f", Type: "int"}, []api.Node{{Kind: api.KParam, Name: "n", Type: "int", Size: 1}}, under(api.Node{Kind: api.KBlock}, last, under(api.Node{Kind: api.KReturn}, sum)))
	start := under(api.Node{Kind: api.KPrint}, under(api.Node{Kind: api.KCall, Name: "f"}, leaf(api.KInt, 98)))
	p := checked(t, under(api.Node{Kind: api.KProgram}, f, under(api.Node{Kind: api.KFunc, Name: "main"}, under(api.Node{Kind: api.KBlock}, start))))
	r, errno := Run(p, nil, api.Limits{Depth: 100}, 10000)
	if wanted := strconv.Itoa(98*parts) + "\n"; errno != api.OK || r.Outcome.Phase != api.Ended || r.Output != wanted {
		t.Errorf("deep sums in frames: %d, %v, %q", errno, r.Outcome, r.Output)
	}
	r, errno = Run(p, nil, api.Limits{Depth: 99}, 10000)
	if errno != api.OK || r.Outcome.Trap != api.TrapDepth || r.Output != "" || frames(r.Events) != 99 {
		t.Errorf("deep sums in too many frames: %d, %v, %q", errno, r.Outcome, r.Output)
	}
}

// P11.4: as many events as may be asked for.
func TestManyEvents(t *testing.T) {
	p := front(t, `fn main() { var x: int = 0; while true { x = x + 1; } }`)
	r, errno := Run(p, nil, api.Limits{Depth: 1}, api.MaxBudget)
	if errno != api.OK || r.Outcome != (api.Outcome{}) || r.Steps != 1000000 || len(r.Events) != 1000000 {
		t.Fatalf("a million events: %d, %v, %d", errno, r.Outcome, r.Steps)
	}
	// Four a turn, behind the first four.
	for turn := 1; turn < 249000; turn += 997 {
		at := 4 + 4*turn
		if e := r.Events[at-2]; e.Kind != api.EvSet || e.Value.Int != int64(turn) {
			t.Fatalf("event %d is %v", at-1, e)
		}
	}
	_, errno = Run(p, nil, api.Limits{Depth: 1}, api.MaxBudget+1)
	if errno != api.ErrSize {
		t.Errorf("one event more: %d", errno)
	}
}

// A block that is left early costs nothing of what stands behind.
func TestLongBlocks(t *testing.T) {
	var nodes []api.Node
	for range 9000 {
		nodes = append(nodes, under(api.Node{Kind: api.KPrint}, leaf(api.KInt, 1))...)
	}
	body := under(api.Node{Kind: api.KBlock}, nodes)
	r, errno := Run(mainOf(t, body), nil, api.Limits{Depth: 1}, 10000)
	if errno != api.OK || r.Outcome.Phase != api.Ended || r.Steps != 9000+4 || r.Output != strings.Repeat("1\n", 9000) {
		t.Errorf("a long block: %d, %v, %d events", errno, r.Outcome, r.Steps)
	}
	loop := under(api.Node{Kind: api.KWhile}, leaf(api.KBool, 1), under(api.Node{Kind: api.KBlock}, under(api.Node{Kind: api.KIf}, leaf(api.KBool, 1), under(api.Node{Kind: api.KBlock}, leaf(api.KContinue, 0))), nodes))
	r, errno = Run(mainOf(t, loop), nil, api.Limits{Depth: 1}, 1000000)
	if errno != api.OK || r.Outcome.Phase != api.Running || r.Steps != 1000000 || r.Output != "" {
		t.Errorf("a long block that is left: %d, %v, %d events", errno, r.Outcome, r.Steps)
	}
}

// The greatest of all that a source and a run may have.
func TestGreatest(t *testing.T) {
	input := make([]int64, 1000)
	for i := range input {
		input[i] = int64(i)
	}
	_, r := ran(t, `fn main() { var s: int = 0; var x: int = 0; for i = 1 to 1000 { read x; s = s + x; } print s; }`, input, api.Limits{Depth: 1}, 100000)
	if r.Outcome.Phase != api.Ended || r.Input != 1000 || r.Output != "499500\n" {
		t.Errorf("a thousand numbers: %v, %d, %q", r.Outcome, r.Input, r.Output)
	}
	_, r = ran(t, `fn main() { var a: [int] = new int[99999]; a[99998] = 7; print len(a), a[99998], a[0]; a = new int[0]; }`, nil, api.Limits{Depth: 1, Cells: 100000}, 100)
	if r.Outcome.Trap != api.TrapHeap || r.Output != "99999 7 0\n" || len(r.Arrays) != 2 || len(r.Arrays[1]) != 99999 || r.Arrays[1][99998].Int != 7 {
		t.Errorf("the greatest array: %v, %q", r.Outcome, r.Output)
	}
	_, r = ran(t, `fn f(a: int, b: bool, c: text, d: [int], e: [bool], f: [text], g: [[int]], h: [[[[text]]]]): [[[[text]]]] { print a, b, c, len(d), len(e), len(f), len(g), len(h); return h; } fn main() { print len(f(1, true, "x", new int[2], new bool[3], new text[4], new [int][5], new [[[text]]][6])); }`, nil, wide, 100)
	if r.Outcome.Phase != api.Ended || r.Output != "1 true x 2 3 4 5 6\n6\n" {
		t.Errorf("eight parameters: %v, %q", r.Outcome, r.Output)
	}
	_, r = ran(t, `fn main() { print 1, 2, 3, 4, 5, 6, 7, 8, 9, 10, 11, 12, 13, 14, 15, 16; }`, nil, wide, 100)
	if r.Output != "1 2 3 4 5 6 7 8 9 10 11 12 13 14 15 16\n" {
		t.Errorf("sixteen values: %q", r.Output)
	}
}
