package flow

import (
	"math/rand"
	"slices"
	"strconv"
	"testing"
	"unsafe"

	"retrace/api"
)

const deep = 1 << 16

// mainOf is a program of one function, its body's statements as a list of nodes.
func mainOf(statements []api.Node) api.Tree {
	size := len(statements)
	head := []api.Node{{Kind: api.KProgram, Size: size + 3}, {Kind: api.KFunc, Name: "main", At: 1, Size: size + 2}, {Kind: api.KBlock, At: 2, Size: size + 1}}
	return api.Tree{Nodes: append(head, statements...)}
}

// nested is parts within one another: each has nodes of its own ahead of the next one and behind it, and the first of them is around them all.
func nested(count int, ahead, behind []api.Node, inner ...api.Node) []api.Node {
	var nodes []api.Node
	for range count {
		nodes = append(nodes, ahead...)
	}
	nodes = append(nodes, inner...)
	for i := count - 1; i >= 0; i-- {
		first := i * len(ahead)
		last := first + len(ahead) - 1
		// What is around ends here: its block, if the last of the nodes ahead is one, and behind what follows that the part itself.
		if last > first && nodes[last].Kind == api.KBlock {
			nodes[last].Size = len(nodes) - last
		}
		nodes = append(nodes, behind...)
		nodes[first].Size = len(nodes) - first
	}
	return nodes
}

// P8.1, P8.2, P8.3, P8.9: statements nested deeper than calls may be.
func TestDeep(t *testing.T) {
	yes := api.Node{Kind: api.KBool, Int: 1, Size: 1}
	one := api.Node{Kind: api.KInt, Int: 1, Size: 1}
	back := []api.Node{{Kind: api.KReturn, Size: 2}, one}
	hook := api.Node{Kind: api.KHook, Int: 1, Size: 1}
	blockOf := func(nodes ...api.Node) []api.Node {
		return append([]api.Node{{Kind: api.KBlock, Size: len(nodes) + 1}}, nodes...)
	}
	for what, row := range map[string]struct {
		ahead, behind, inner []api.Node
		returns, ends        bool
		dead                 int
	}{
		"blocks":            {[]api.Node{{Kind: api.KBlock}}, nil, back, true, false, 0},
		"empty blocks":      {[]api.Node{{Kind: api.KBlock}}, nil, nil, false, true, 0},
		"blocks and hooks":  {[]api.Node{{Kind: api.KBlock}, hook}, []api.Node{hook}, back, true, false, 0},
		"blocks and blocks": {[]api.Node{{Kind: api.KBlock}}, blockOf(), back, false, false, deep},
		"whiles":            {[]api.Node{{Kind: api.KWhile}, yes, {Kind: api.KBlock}}, nil, back, false, true, 0},
		"fors":              {[]api.Node{{Kind: api.KFor, Name: "i"}, one, one, {Kind: api.KBlock}}, nil, back, false, true, 0},
		"ifs":               {[]api.Node{{Kind: api.KIf}, yes, {Kind: api.KBlock}}, nil, back, false, true, 0},
		"ifs with elses":    {[]api.Node{{Kind: api.KIf}, yes, {Kind: api.KBlock}}, blockOf(back...), back, true, false, 0},
		"elses":             {append([]api.Node{{Kind: api.KIf}, yes}, append(blockOf(back...), api.Node{Kind: api.KBlock})...), nil, back, true, false, 0},
		"else ifs":          {append([]api.Node{{Kind: api.KIf}, yes}, blockOf(back...)...), nil, blockOf(back...), true, false, 0},
		"endless else ifs":  {append([]api.Node{{Kind: api.KIf}, yes}, blockOf(back...)...), nil, append([]api.Node{{Kind: api.KIf, Size: 3}, yes}, blockOf()...), false, true, 0},
	} {
		body := nested(deep, row.ahead, row.behind, row.inner...)
		p := mainOf(body)
		p.Nodes[1].Type = "int"
		wanted := api.Problem{Code: api.ErrReturn, At: 1}
		if row.returns {
			wanted = api.Problem{}
		}
		if got := Check(p, true); got != wanted {
			t.Errorf("deep %s: %v, want %v", what, got, wanted)
		}
		if got := Ends(p, 2); got != row.ends {
			t.Errorf("deep %s: ends: %v", what, got)
		}
		if got := Ends(p, 3); got != row.ends {
			t.Errorf("deep %s: the first ends: %v", what, got)
		}
		if dead := Dead(p); len(dead) != row.dead || !slices.IsSorted(dead) {
			t.Errorf("deep %s: %d are dead", what, len(dead))
		}
		if got, problem := Tree(p); problem != (api.Problem{Code: api.ErrSize, At: p.Nodes[api.MaxTree].At}) || len(got.Types) > 0 {
			t.Errorf("deep %s: %v", what, problem)
		}
	}
}

// P8.5, P8.9: a tree within the limit that is nested as deep as it can be.
func TestDeepTree(t *testing.T) {
	yes := api.Node{Kind: api.KBool, Int: 1, Size: 1}
	loops := nested(13000, []api.Node{{Kind: api.KWhile}, yes, {Kind: api.KBlock}}, nil, api.Node{Kind: api.KBreak, Size: 1})
	p := mainOf(loops)
	q, problem := Tree(p)
	if problem != (api.Problem{}) || q.Scoped.Targets[len(p.Nodes)-1] != len(p.Nodes)-4 || q.Types[4] != "bool" {
		t.Errorf("deep loops: %v", problem)
	}
	minus := nested(39000, []api.Node{{Kind: api.KUnary, Op: api.OpNeg}}, nil, api.Node{Kind: api.KInt, Size: 1})
	p = mainOf(append([]api.Node{{Kind: api.KPrint, Size: len(minus) + 1}}, minus...))
	if q, problem := Tree(p); problem != (api.Problem{}) || q.Types[4] != "int" {
		t.Errorf("a deep value: %v", problem)
	}
}

// P8.1, P8.3, P8.9: long lists of statements and functions.
func TestLong(t *testing.T) {
	const count = 1 << 18
	many := make([]api.Node, count)
	for i := range many {
		many[i] = api.Node{Kind: []api.Kind{api.KBlock, api.KBreak, api.KReturn}[i%3], At: i, Size: 1}
	}
	p := mainOf(many)
	if got := Check(p, false); got != (api.Problem{}) || Ends(p, 2) || !Ends(p, 3) || Ends(p, 4) {
		t.Errorf("many statements: %v", got)
	}
	dead := Dead(p)
	if len(dead) != count-2 || dead[0] != 5 || dead[len(dead)-1] != len(p.Nodes)-1 || !slices.IsSorted(dead) {
		t.Errorf("many statements: %d are dead", len(dead))
	}
	p.Nodes = append(p.Nodes, api.Node{Kind: api.KHook, Int: 1, At: 9, Size: 1})
	for n := range 3 {
		p.Nodes[n].Size++
	}
	if got := Check(p, false); got != (api.Problem{Code: api.ErrHook, At: 9}) || len(Dead(p)) != count-2 {
		t.Errorf("many statements and a hook: %v", got)
	}
	var funcs []api.Node
	for i := range count {
		funcs = append(funcs, api.Node{Kind: api.KFunc, Name: "f" + strconv.Itoa(i), At: i, Size: 3}, api.Node{Kind: api.KBlock, Size: 2}, api.Node{Kind: api.KReturn, Size: 1})
	}
	q := api.Tree{Nodes: append([]api.Node{{Kind: api.KProgram, Size: len(funcs) + 1}}, funcs...)}
	if got := Check(q, false); got != (api.Problem{}) || len(Dead(q)) > 0 {
		t.Errorf("many functions: %v", got)
	}
	q.Nodes[len(q.Nodes)-3].Type = "int"
	q.Nodes[len(q.Nodes)-1].At = 8
	if got := Check(q, false); got != (api.Problem{Code: api.ErrReturn, At: 8}) {
		t.Errorf("many functions: %v", got)
	}
}

// roomy is a list with spare room behind it, with something in it.
func roomy[T any](list []T, spare T) []T {
	return append(slices.Clone(list), spare, spare)[:len(list)]
}

// P8.9: what is handed in is not changed, spare room included; asked again, the answer is the same.
func TestNothingChanged(t *testing.T) {
	for i := range 300 {
		g := &grower{Rand: rand.New(rand.NewSource(int64(i))), wild: 10 * (i % 3), hooks: i%2 == 0}
		p := g.program().tree()
		p.Nodes = roomy(p.Nodes, api.Node{Name: "spare"})
		kept := told(p.Nodes[:cap(p.Nodes)])
		answers := func() string {
			program, problem := Tree(p)
			return told([]any{Check(p, true), Check(p, false), Dead(p), Ends(p, g.Intn(1)), program, problem})
		}
		if one, other := answers(), answers(); one != other {
			t.Fatalf("another answer the second time: %s, %s", one, other)
		}
		if told(p.Nodes[:cap(p.Nodes)]) != kept {
			t.Fatalf("something was changed of\n%s", dump(p))
		}
	}
}

// span is a piece of memory.
type span struct {
	what       string
	first, end uintptr
}

func (a span) meets(b span) bool {
	return a.first < b.end && b.first < a.end
}

func listSpan[T any](what string, list []T) span {
	first := uintptr(unsafe.Pointer(unsafe.SliceData(list)))
	return span{what, first, first + uintptr(cap(list))*unsafe.Sizeof(*new(T))}
}

func textSpan(what, text string) span {
	first := uintptr(unsafe.Pointer(unsafe.StringData(text)))
	return span{what, first, first + uintptr(len(text))}
}

// spansOf is the memory of a program's lists, and of its texts.
func spansOf(p api.Program) (lists, texts []span) {
	s := p.Scoped
	lists = []span{listSpan("nodes", p.Tree.Nodes), listSpan("types", p.Types), listSpan("functions", s.Funcs), listSpan("slots", s.Slots), listSpan("calls", s.Calls), listSpan("targets", s.Targets), listSpan("owners", s.Owners)}
	texts = append(nodeTexts(p.Tree.Nodes), textSpan("text", p.Text))
	for _, typing := range p.Types {
		texts = append(texts, textSpan("type", typing))
	}
	for _, f := range s.Funcs {
		lists = append(lists, listSpan("variables", f.Vars))
		texts = append(texts, textSpan("function", f.Name), textSpan("result", f.Result))
		for _, v := range f.Vars {
			texts = append(texts, textSpan("variable", v.Name), textSpan("variable's type", v.Type))
		}
	}
	return lists, texts
}

func nodeTexts(nodes []api.Node) []span {
	var texts []span
	for _, node := range nodes {
		texts = append(texts, textSpan("name", node.Name), textSpan("label", node.Label), textSpan("node's type", node.Type), textSpan("node's text", node.Text))
	}
	return texts
}

// apart checks that none of some pieces of memory meets one of others.
func apart(t *testing.T, a, b []span) {
	t.Helper()
	for _, one := range a {
		for _, other := range b {
			if one.meets(other) {
				t.Fatalf("the %s shares memory with the %s", one.what, other.what)
			}
		}
	}
}

// P8.9: answers are new memory.
func TestNewMemory(t *testing.T) {
	source := `fn first(aa: [int], bb: text): [text] { outer: while true { break outer; } return new text[aa[0]]; } fn main() { var dd: [[int]] = new [int][1]; for ii = 1 to 2 { print dd[0][0], first(dd[0], "some text")[0]; } }`
	text := string([]byte(source))
	p, problem := Front(text)
	again, _ := Front(text)
	if problem.Code != api.OK {
		t.Fatal(problem)
	}
	lists, texts := spansOf(p)
	for i, list := range lists {
		apart(t, []span{list}, lists[i+1:])
	}
	apart(t, texts, []span{textSpan("source", text)})
	q, _ := Tree(p.Tree)
	r, _ := Tree(p.Tree)
	for _, other := range []api.Program{again, q, r} {
		otherLists, _ := spansOf(other)
		apart(t, lists, otherLists)
	}
	qLists, qTexts := spansOf(q)
	rLists, _ := spansOf(r)
	apart(t, qLists, rLists)
	for i, list := range qLists {
		apart(t, []span{list}, qLists[i+1:])
	}
	apart(t, qTexts, nodeTexts(p.Tree.Nodes))
	// Whoever fills an answer with something else leaves the next one as it is.
	kept := told(again)
	for i := range p.Tree.Nodes {
		p.Tree.Nodes[i] = api.Node{}
		p.Types[i] = "x"
		p.Scoped.Slots[i], p.Scoped.Owners[i] = 9, 9
	}
	if anew, _ := Front(text); told(anew) != kept || told(again) != kept {
		t.Errorf("an answer changed with another one: %v", anew)
	}
	dying := parsed(t, "fn main() { return; print 1; print 2; { break; print 3; } }")
	one, other := Dead(dying), Dead(dying)
	apart(t, []span{listSpan("dead", one)}, []span{listSpan("other dead", other), listSpan("nodes", dying.Nodes)})
	for i := range one[:cap(one)] {
		one[:cap(one)][i] = -1
	}
	if !slices.Equal(Dead(dying), other) || len(other) != 4 {
		t.Errorf("dead %v", other)
	}
}
