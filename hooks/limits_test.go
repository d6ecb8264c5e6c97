package hooks

import (
	"slices"
	"testing"

	"retrace/api"
	"retrace/flow"
)

// mainOf is the checked program of one function, its body's statements as a list of nodes.
func mainOf(t *testing.T, statements ...[]api.Node) api.Program {
	t.Helper()
	body := under(api.Node{Kind: api.KBlock}, statements...)
	return checked(t, under(api.Node{Kind: api.KProgram}, under(api.Node{Kind: api.KFunc, Name: "main"}, body)))
}

func checked(t *testing.T, nodes []api.Node) api.Program {
	t.Helper()
	p, problem := flow.Tree(api.Tree{Nodes: nodes})
	if problem.Code != api.OK {
		t.Fatal(problem)
	}
	return p
}

// around lays so many parts around one another, each with nodes of its own ahead of the next one and behind it; the first node of the part is around all, the last one ahead, if it is a block, around what is within.
func around(count int, ahead, behind, inner []api.Node) []api.Node {
	var nodes []api.Node
	for range count {
		nodes = append(nodes, ahead...)
	}
	nodes = append(nodes, inner...)
	for i := count - 1; i >= 0; i-- {
		first := i * len(ahead)
		last := first + len(ahead) - 1
		if last > first && nodes[last].Kind == api.KBlock {
			nodes[last].Size = len(nodes) - last
		}
		nodes = append(nodes, behind...)
		nodes[first].Size = len(nodes) - first
	}
	return nodes
}

func under(node api.Node, kids ...[]api.Node) []api.Node {
	nodes := []api.Node{node}
	for _, kid := range kids {
		nodes = append(nodes, kid...)
	}
	nodes[0].Size = len(nodes)
	return nodes
}

func leaf(kind api.Kind, n int64) []api.Node {
	return []api.Node{{Kind: kind, Int: n, Size: 1}}
}

// sized asks that a program's tree with hooks has so many nodes, or is refused if those are too many.
func sized(t *testing.T, what string, p api.Program, count int) {
	t.Helper()
	if count > 40000 {
		refuses(t, what, p, api.ErrSize)
		return
	}
	x, rows := holds(t, p, what)
	if len(x.Nodes) != count || len(rows) == 0 {
		t.Errorf("%s: %d nodes, want %d", what, len(x.Nodes), count)
	}
}

// P12.1: just as many nodes as may be, and one more, of many kinds of statements.
func TestSizes(t *testing.T) {
	blocks, returns := leaf(api.KBlock, 0), leaf(api.KReturn, 0)
	print := under(api.Node{Kind: api.KPrint}, leaf(api.KInt, 1))
	// Beside the statements there are five nodes: three of main's own and two hooks.
	for count := 13330; count <= 13333; count++ {
		sized(t, "blocks", mainOf(t, slices.Repeat(blocks, count)), 3*count+5)
	}
	sized(t, "blocks and a return", mainOf(t, slices.Repeat(blocks, 13331), returns), 40000)
	sized(t, "blocks and a print", mainOf(t, slices.Repeat(blocks, 13331), print), 40001)
	sized(t, "a return and blocks", mainOf(t, returns, slices.Repeat(blocks, 13331)), 40000)
	sized(t, "a print and blocks", mainOf(t, print, slices.Repeat(blocks, 13331)), 40001)
	for count := 19996; count <= 19998; count++ {
		sized(t, "returns", mainOf(t, slices.Repeat(returns, count)), 2*count+5)
	}
	read := under(api.Node{Kind: api.KRead}, []api.Node{{Kind: api.KName, Name: "x", Size: 1}})
	declare := under(api.Node{Kind: api.KVar, Name: "x", Type: "int"}, leaf(api.KInt, 1))
	for count := 9997; count <= 9998; count++ {
		sized(t, "reads", mainOf(t, declare, slices.Repeat(read, count)), 4*count+9)
		sized(t, "reads, with one return", mainOf(t, declare, slices.Repeat(read, count), returns), 4*count+11)
		sized(t, "reads, with one print", mainOf(t, declare, slices.Repeat(read, count), print), 4*count+12)
	}
	for count := 39991; count <= 39995; count++ {
		value := around(count, []api.Node{{Kind: api.KUnary, Op: api.OpNeg}}, nil, leaf(api.KInt, 1))
		sized(t, "a deep print", mainOf(t, under(api.Node{Kind: api.KPrint}, value)), count+8)
	}
	// A program with as many nodes as a tree may have has no room for hooks.
	value := around(39995, []api.Node{{Kind: api.KUnary, Op: api.OpNeg}}, nil, leaf(api.KInt, 1))
	refuses(t, "the longest", mainOf(t, under(api.Node{Kind: api.KPrint}, value)), api.ErrSize)
	for _, nodes := range [][]api.Node{slices.Repeat(blocks, 39997), slices.Repeat(returns, 39997)} {
		refuses(t, "as many as may be", mainOf(t, nodes), api.ErrSize)
	}
}

// P12.1: a program with hooks is refused for them, however long it is.
func TestLongHooked(t *testing.T) {
	blocks := slices.Repeat(leaf(api.KBlock, 0), 30000)
	for _, hook := range [][]api.Node{leaf(api.KHook, 1), leaf(api.KReturn, 1)} {
		refuses(t, "long and hooked", mainOf(t, blocks, hook), api.ErrArg)
	}
	p := mainOf(t, blocks)
	p.Types[7] = "int"
	refuses(t, "long and unchecked", p, api.ErrArg)
	// With one node more than a tree may have there is no checked program.
	nodes := mainOf(t, slices.Repeat(leaf(api.KBlock, 0), 39997)).Tree.Nodes
	nodes = append(nodes, leaf(api.KBlock, 0)...)
	nodes[0].Size, nodes[1].Size, nodes[2].Size = 40001, 40000, 39999
	refuses(t, "too long", api.Program{Tree: api.Tree{Nodes: nodes}}, api.ErrArg)
}

// P12.7: statements nested as deep as a tree can be.
func TestDeep(t *testing.T) {
	yes := leaf(api.KBool, 1)
	block := leaf(api.KBlock, 0)
	one := leaf(api.KInt, 1)
	for what, nodes := range map[string][]api.Node{
		"blocks":  around(13331, block, nil, leaf(api.KReturn, 0)),
		"ifs":     around(6600, slices.Concat(leaf(api.KIf, 0), yes, block), nil, leaf(api.KBlock, 0)),
		"elses":   around(4400, slices.Concat(leaf(api.KIf, 0), yes, block, block), nil, leaf(api.KReturn, 0)),
		"whiles":  around(6600, slices.Concat(leaf(api.KWhile, 0), yes, block), nil, leaf(api.KBreak, 0)),
		"else if": elseIfs(7000),
		"fors":    around(80, slices.Concat([]api.Node{{Kind: api.KFor, Name: "i"}}, one, one, block), nil, leaf(api.KContinue, 0)),
	} {
		p := mainOf(t, nodes)
		x, _ := holds(t, p, what)
		if len(x.Nodes) == 0 {
			t.Errorf("%s: too many", what)
		}
	}
}

// elseIfs is an if with so many more behind its else.
func elseIfs(count int) []api.Node {
	head := slices.Concat(leaf(api.KIf, 0), leaf(api.KBool, 0), leaf(api.KBlock, 0))
	nodes := slices.Repeat(head, count)
	for i := range count {
		nodes[3*i].Size = len(nodes) - 3*i
	}
	return nodes
}

// P12.2, P12.3: trees longer and deeper than a program's may be.
func TestLongErase(t *testing.T) {
	hook, block := leaf(api.KHook, 5), leaf(api.KBlock, 0)
	statements := slices.Repeat(slices.Concat(hook, block, hook), 100000)
	body := under(api.Node{Kind: api.KBlock}, statements)
	x := api.Tree{Nodes: under(api.Node{Kind: api.KProgram}, under(api.Node{Kind: api.KFunc, Name: "f"}, body))}
	got, errno := Erase(x)
	if errno != api.OK || len(got.Nodes) != 100003 || Count(x) != 200000 || Count(got) != 0 {
		t.Errorf("a long one: %d, %d nodes, %d hooks", errno, len(got.Nodes), Count(x))
	}
	deep := around(60000, slices.Concat(block, hook), hook, leaf(api.KReturn, 9))
	x = api.Tree{Nodes: under(api.Node{Kind: api.KProgram}, under(api.Node{Kind: api.KFunc, Name: "f"}, deep))}
	got, errno = Erase(x)
	if errno != api.OK || len(got.Nodes) != 60003 || Count(x) != 120001 || Count(got) != 0 {
		t.Errorf("a deep one: %d, %d nodes, %d hooks", errno, len(got.Nodes), Count(x))
	}
	for n, node := range got.Nodes {
		if node.Size != 60003-n {
			t.Fatalf("node %d has the size %d", n, node.Size)
		}
	}
}
