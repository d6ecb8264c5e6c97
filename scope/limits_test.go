package scope

import (
	"math/rand"
	"slices"
	"strconv"
	"testing"
	"unsafe"

	"retrace/api"
)

const deep = 1 << 16

// mainOf is a program of one function, its body's statements as a list of nodes.
func mainOf(statements []api.Node) api.Tree {
	size := len(statements)
	head := []api.Node{{Kind: api.KProgram, Size: size + 3}, {Kind: api.KFunc, Name: "main", At: 1, Size: size + 2}, {Kind: api.KBlock, At: 2, Size: size + 1}}
	return api.Tree{Nodes: append(head, statements...)}
}

// nested is parts within one another: each has nodes of its own ahead of the next one and behind it, and the first of them is around them all.
func nested(count int, part func(i int) (ahead, behind []api.Node), inner ...api.Node) []api.Node {
	var nodes []api.Node
	var opened []int
	for i := range count {
		ahead, _ := part(i)
		opened = append(opened, len(nodes))
		nodes = append(nodes, ahead...)
	}
	nodes = append(nodes, inner...)
	for i := count - 1; i >= 0; i-- {
		ahead, behind := part(i)
		nodes = append(nodes, behind...)
		// What is around ends here: the part itself, and its block, the last of the nodes ahead.
		first := opened[i]
		nodes[first].Size = len(nodes) - first
		if last := first + len(ahead) - 1; last > first {
			nodes[last].Size = len(nodes) - last
		}
	}
	return nodes
}

func label(i int) string {
	return "label" + strconv.Itoa(100000+i)
}

// whiles is loops nested in one another, each with a label of its own.
func whiles(count int, inner ...api.Node) []api.Node {
	return nested(count, func(i int) (ahead, behind []api.Node) {
		return []api.Node{{Kind: api.KWhile, Label: label(i)}, {Kind: api.KBool, Size: 1}, {Kind: api.KBlock}}, nil
	}, inner...)
}

// P6.5: blocks nested deeper than calls may be, a variable in the outermost and the innermost one.
func TestDeepBlocks(t *testing.T) {
	one := []api.Node{{Kind: api.KVar, Name: "x", Type: "int", Size: 2}, {Kind: api.KInt, Size: 1}}
	other := []api.Node{{Kind: api.KVar, Name: "y", Type: "int", Size: 2}, {Kind: api.KName, Name: "x", Size: 1}}
	hook := api.Node{Kind: api.KHook, Int: 1, Name: "y", At: 9, Size: 1}
	blocks := nested(deep, func(int) (ahead, behind []api.Node) { return []api.Node{{Kind: api.KBlock}}, nil }, append(other, hook)...)
	p := mainOf(append(one, blocks...))
	s, problem := Resolve(p)
	if problem.Code != api.OK || s.Funcs[0].Slots != 2 || s.Slots[len(p.Nodes)-1] != 1 || s.Slots[len(p.Nodes)-2] != 0 {
		t.Fatalf("deep blocks: %v", problem)
	}
	if got := Visible(p, s, len(p.Nodes)-1); len(got) != 2 || got[0].Name != "x" || got[1].Name != "y" {
		t.Errorf("in deep blocks: %v", got)
	}
	p = mainOf(append(append(one, blocks...), hook))
	if _, problem := Resolve(p); problem != (api.Problem{Code: api.ErrUnseen, At: 9}) {
		t.Errorf("behind deep blocks: %v", problem)
	}
}

// P6.5: loops and expressions nested deeper than calls may be.
func TestDeepLoops(t *testing.T) {
	const count = deep
	jumps := []api.Node{{Kind: api.KBreak, Label: label(0), Size: 1}, {Kind: api.KContinue, Size: 1}, {Kind: api.KBreak, Label: label(count / 2), Size: 1}}
	p := mainOf(whiles(count, jumps...))
	s, problem := Resolve(p)
	if problem.Code != api.OK {
		t.Fatalf("deep loops: %v", problem)
	}
	if got := s.Targets[len(p.Nodes)-3:]; !slices.Equal(got, []int{3, 3 * count, 3 + 3*(count/2)}) {
		t.Errorf("targets %v", got)
	}
	p = mainOf(whiles(count, api.Node{Kind: api.KBreak, Label: "main", At: 9, Size: 1}))
	if _, problem := Resolve(p); problem != (api.Problem{Code: api.ErrLoop, At: 9}) {
		t.Errorf("deep loops: %v", problem)
	}
	// Each loop is left by a jump out of the outermost one.
	leaving := nested(count, func(i int) (ahead, behind []api.Node) {
		behind = []api.Node{{Kind: api.KBreak, Label: label(0), Size: 1}}
		return []api.Node{{Kind: api.KWhile, Label: label(i)}, {Kind: api.KBool, Size: 1}, {Kind: api.KBlock}}, behind
	})
	p = mainOf(leaving)
	s, problem = Resolve(p)
	if problem.Code != api.OK || slices.ContainsFunc(s.Targets[len(p.Nodes)-count:], func(target int) bool { return target != 3 }) {
		t.Errorf("deep loops left at once: %v", problem)
	}
	minus := func(int) (ahead, behind []api.Node) {
		return []api.Node{{Kind: api.KUnary, Op: api.OpNeg}}, nil
	}
	value := nested(deep, minus, api.Node{Kind: api.KName, Name: "x", At: 9, Size: 1})
	p = mainOf(append([]api.Node{{Kind: api.KVar, Name: "x", Type: "int", Size: len(value) + 1}}, value...))
	if _, problem := Resolve(p); problem != (api.Problem{Code: api.ErrUnseen, At: 9}) {
		t.Errorf("a deep value: %v", problem)
	}
}

// P6.1, P6.5: ifs behind elses, one in the other.
func TestLongElse(t *testing.T) {
	ifs := nested(deep, func(int) (ahead, behind []api.Node) {
		return []api.Node{{Kind: api.KIf}, {Kind: api.KBool, Size: 1}, {Kind: api.KBlock, Size: 1}}, nil
	})
	// Their blocks are empty: only the ifs are around one another.
	for n := range ifs {
		if ifs[n].Kind == api.KBlock {
			ifs[n].Size = 1
		}
	}
	p := mainOf(ifs)
	s, problem := Resolve(p)
	if problem.Code != api.OK || len(s.Owners) != len(p.Nodes) || s.Owners[len(p.Nodes)-1] != 0 {
		t.Errorf("a long chain of ifs: %v", problem)
	}
}

// P6.1, P6.5: lists that are long.
func TestLong(t *testing.T) {
	var vars, funcs []api.Node
	for i := range 200000 {
		vars = append(vars, api.Node{Kind: api.KVar, Name: "v" + strconv.Itoa(i), Type: "int", Size: 2}, api.Node{Kind: api.KInt, Size: 1})
		funcs = append(funcs, api.Node{Kind: api.KFunc, Name: "f" + strconv.Itoa(i), At: i, Size: 2}, api.Node{Kind: api.KBlock, Size: 1})
	}
	if _, problem := Resolve(mainOf(vars)); problem != (api.Problem{Code: api.ErrMany, At: 1}) {
		t.Errorf("many variables: %v", problem)
	}
	root := api.Node{Kind: api.KProgram, Size: len(funcs) + 1}
	if _, problem := Resolve(api.Tree{Nodes: append([]api.Node{root}, funcs...)}); problem != (api.Problem{Code: api.ErrMany, At: 60}) {
		t.Errorf("many functions: %v", problem)
	}
}

// P6.5: what is handed in is not changed, spare room included; asked again, the answer is the same.
func TestNothingChanged(t *testing.T) {
	for i := range 300 {
		g := &grower{Rand: rand.New(rand.NewSource(int64(i))), wild: i % 3}
		nodes := g.program().tree().Nodes
		room := append(slices.Clone(nodes), g.program().tree().Nodes...)
		kept := slices.Clone(room)
		p := api.Tree{Nodes: room[:len(nodes)]}
		s, problem := Resolve(p)
		again, problemAgain := Resolve(p)
		if told(s) != told(again) || problem != problemAgain {
			t.Fatalf("another answer the second time: %v, %v", s, again)
		}
		spare := roomy(s)
		before := told(whole(spare))
		for n := range nodes {
			seen := told(Visible(p, spare, n))
			if seen != told(Visible(p, s, n)) || seen != told(Visible(p, spare, n)) {
				t.Fatalf("another answer the second time, at %d", n)
			}
		}
		if !slices.Equal(room, kept) {
			t.Fatalf("the tree was changed:\n%s", dump(api.Tree{Nodes: kept[:len(nodes)]}))
		}
		if told(whole(spare)) != before {
			t.Fatalf("the Scoped was changed")
		}
	}
}

// roomy is a Scoped with spare room behind its lists, with something in it.
func roomy(s api.Scoped) api.Scoped {
	with := func(list []int) []int { return append(slices.Clone(list), 5, 6)[:len(list)] }
	c := api.Scoped{Slots: with(s.Slots), Calls: with(s.Calls), Targets: with(s.Targets), Owners: with(s.Owners)}
	for _, f := range s.Funcs {
		f.Vars = append(slices.Clone(f.Vars), api.Var{Name: "spare"})[:len(f.Vars)]
		c.Funcs = append(c.Funcs, f)
	}
	c.Funcs = append(c.Funcs, api.Func{Name: "spare"})[:len(c.Funcs)]
	return c
}

// whole is a Scoped with the spare room of its lists.
func whole(s api.Scoped) api.Scoped {
	all := func(list []int) []int { return list[:cap(list)] }
	c := api.Scoped{Funcs: slices.Clone(s.Funcs[:cap(s.Funcs)]), Slots: all(s.Slots), Calls: all(s.Calls), Targets: all(s.Targets), Owners: all(s.Owners)}
	for i := range c.Funcs {
		c.Funcs[i].Vars = c.Funcs[i].Vars[:cap(c.Funcs[i].Vars)]
	}
	return c
}

// span is a piece of memory.
type span struct {
	first, end uintptr
}

func spanOf[T any](list []T) span {
	var one T
	first := uintptr(unsafe.Pointer(unsafe.SliceData(list)))
	return span{first, first + uintptr(cap(list))*unsafe.Sizeof(one)}
}

func textSpan(text string) span {
	first := uintptr(unsafe.Pointer(unsafe.StringData(text)))
	return span{first, first + uintptr(len(text))}
}

func (a span) meets(b span) bool {
	return a.first < b.end && b.first < a.end
}

func scopedSpans(s api.Scoped) (lists, texts []span) {
	lists = []span{spanOf(s.Funcs), spanOf(s.Slots), spanOf(s.Calls), spanOf(s.Targets), spanOf(s.Owners)}
	for _, f := range s.Funcs {
		lists = append(lists, spanOf(f.Vars))
		texts = append(texts, textSpan(f.Name), textSpan(f.Result))
		texts = append(texts, varTexts(f.Vars)...)
	}
	return lists, texts
}

func varTexts(vars []api.Var) []span {
	var texts []span
	for _, v := range vars {
		texts = append(texts, textSpan(v.Name), textSpan(v.Type))
	}
	return texts
}

func apart(t *testing.T, what string, a, b []span) {
	t.Helper()
	for i := range a {
		for j := range b {
			if a[i].meets(b[j]) {
				t.Fatalf("%s: %d and %d share memory", what, i, j)
			}
		}
	}
}

// P6.5: answers are new memory, no two lists share any.
func TestNewMemory(t *testing.T) {
	// Texts of their own: those of constants may be one for all.
	source := "fn f(" + "aa: [int], bb: text): [text] { for ii = 1 to 2 { var cc: [bool] = aa; } } fn g() { } fn main() { var dd: int = 1; { var ee: int = 2; dd = 1; } }"
	p := parsed(t, source)
	for n := range p.Nodes {
		node := &p.Nodes[n]
		node.Name, node.Type = string([]byte(node.Name)), string([]byte(node.Type))
	}
	given := []span{spanOf(p.Nodes)}
	for _, node := range p.Nodes {
		given = append(given, textSpan(node.Name), textSpan(node.Type))
	}
	a, _ := Resolve(p)
	b, _ := Resolve(p)
	aLists, aTexts := scopedSpans(a)
	bLists, bTexts := scopedSpans(b)
	for i := range aLists {
		apart(t, "two lists of one answer", aLists[i:i+1], aLists[i+1:])
	}
	apart(t, "two answers", aLists, bLists)
	apart(t, "an answer and the tree", slices.Concat(aLists, aTexts), given)
	at := slices.IndexFunc(p.Nodes, func(n api.Node) bool { return n.Kind == api.KAssign })
	one, other := Visible(p, a, at), Visible(p, a, at)
	if len(one) != 2 {
		t.Fatalf("visible: %v", one)
	}
	apart(t, "two answers of Visible", []span{spanOf(one)}, []span{spanOf(other)})
	apart(t, "what is visible and what was handed in", append(varTexts(one), spanOf(one)), slices.Concat(given, aLists, aTexts))
	apart(t, "what is visible and another answer", []span{spanOf(one)}, slices.Concat(bLists, bTexts))
	// Whoever fills an answer with something else leaves the next one as it is.
	wanted := told(b)
	for _, list := range [][]int{a.Slots, a.Calls, a.Targets, a.Owners} {
		list = list[:cap(list)]
		for i := range list {
			list[i] = 77
		}
	}
	for i := range a.Funcs {
		clear(a.Funcs[i].Vars[:cap(a.Funcs[i].Vars)])
	}
	clear(a.Funcs[:cap(a.Funcs)])
	if again, _ := Resolve(p); told(again) != wanted || told(b) != wanted {
		t.Errorf("an answer changed with another one: %v", again)
	}
}
