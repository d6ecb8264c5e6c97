package types

import (
	"math"
	"math/rand"
	"slices"
	"strconv"
	"testing"
	"unsafe"

	"retrace/api"
	"retrace/scope"
	"retrace/tree"
)

const deep = 1 << 16

// mainOf is a program of one function, its body's statements as a list of nodes.
func mainOf(statements []api.Node) api.Tree {
	size := len(statements)
	head := []api.Node{{Kind: api.KProgram, Size: size + 3}, {Kind: api.KFunc, Name: "main", At: 1, Size: size + 2}, {Kind: api.KBlock, At: 2, Size: size + 1}}
	return api.Tree{Nodes: append(head, statements...)}
}

// nested is parts within one another: each has nodes of its own ahead of the next one and behind it, and the first of them is around them all.
func nested(count int, ahead, behind []api.Node, inner ...api.Node) []api.Node {
	var nodes []api.Node
	for range count {
		nodes = append(nodes, ahead...)
	}
	nodes = append(nodes, inner...)
	for i := count - 1; i >= 0; i-- {
		nodes = append(nodes, behind...)
		// What is around ends here: the part itself, and its block, if the last of the nodes ahead is one.
		first := i * len(ahead)
		nodes[first].Size = len(nodes) - first
		if last := first + len(ahead) - 1; nodes[last].Kind == api.KBlock {
			nodes[last].Size = len(nodes) - last
		}
	}
	return nodes
}

// checked is what Check answers to a tree with the Scoped that is right for it; if it answers types, Follows must take them.
func checked(t *testing.T, p api.Tree) ([]string, api.Problem) {
	t.Helper()
	s, problem := scope.Resolve(p)
	if problem.Code != api.OK {
		t.Fatalf("the names: %v", problem)
	}
	types, problem := Check(p, s)
	if ok, n := Follows(p, s, types); ok != (problem.Code == api.OK) || ok && n != -1 {
		t.Fatalf("the types break the rules at %d, the problem is %v", n, problem)
	}
	return types, problem
}

// printed is a print of a value.
func printed(value []api.Node) []api.Node {
	return append([]api.Node{{Kind: api.KPrint, Size: len(value) + 1}}, value...)
}

// P7.1, P7.3, P7.6: expressions nested deeper than calls may be.
func TestDeepExpressions(t *testing.T) {
	one := api.Node{Kind: api.KInt, Int: 1, Size: 1}
	text := api.Node{Kind: api.KText, Text: "a", Size: 1}
	yes := api.Node{Kind: api.KBool, Int: 1, At: 9, Size: 1}
	for what, c := range map[string]struct {
		ahead, behind []api.Node
		inner         api.Node
		typing        string
		fits          bool // whether yes in its place fits too
	}{
		"minus":          {[]api.Node{{Kind: api.KUnary, Op: api.OpNeg}}, nil, one, "int", false},
		"sums leftward":  {[]api.Node{{Kind: api.KBinary, Op: api.OpAdd}}, []api.Node{one}, one, "int", false},
		"sums rightward": {[]api.Node{{Kind: api.KBinary, Op: api.OpAdd}, one}, nil, one, "int", false},
		"joined texts":   {[]api.Node{{Kind: api.KBinary, Op: api.OpAdd}, text}, nil, text, "text", false},
		"strs":           {[]api.Node{{Kind: api.KStr}}, nil, one, "text", true},
		"indices":        {[]api.Node{{Kind: api.KIndex}, text}, nil, one, "int", false},
	} {
		value := nested(deep, c.ahead, c.behind, c.inner)
		types, problem := checked(t, mainOf(printed(value)))
		if problem.Code != api.OK || types[4] != c.typing || types[3] != "" {
			t.Errorf("deep %s: %v", what, problem)
		}
		if got, problem := Of(api.Tree{Nodes: value}, nil); got != c.typing || problem.Code != api.OK {
			t.Errorf("deep %s: %q, %v", what, got, problem)
		}
		wrong := nested(deep, c.ahead, c.behind, yes)
		wanted := api.Problem{Code: api.ErrType, At: 9}
		if c.fits {
			wanted = api.Problem{}
		}
		if _, problem := checked(t, mainOf(printed(wrong))); problem != wanted {
			t.Errorf("deep %s with a bool: %v", what, problem)
		}
		if _, problem := Of(api.Tree{Nodes: wrong}, nil); problem != wanted {
			t.Errorf("deep %s with a bool: %v", what, problem)
		}
	}
	calls := nested(deep, []api.Node{{Kind: api.KCall, Name: "main"}}, nil, api.Node{Kind: api.KCall, Name: "main", At: 9, Size: 1})
	p := mainOf(append([]api.Node{{Kind: api.KDo, Size: len(calls) + 1}}, calls...))
	p.Nodes[len(p.Nodes)-2].At = 8
	if _, problem := checked(t, p); problem != (api.Problem{Code: api.ErrCount, At: 8}) {
		t.Errorf("deep calls: %v", problem)
	}
	if _, problem := Of(api.Tree{Nodes: calls}, nil); problem != (api.Problem{Code: api.ErrExpr, At: 9}) {
		t.Errorf("deep calls: %v", problem)
	}
}

// P7.1, P7.6: statements nested deeper than calls may be.
func TestDeepStatements(t *testing.T) {
	yes := api.Node{Kind: api.KBool, Int: 1, Size: 1}
	one := api.Node{Kind: api.KInt, Int: 1, Size: 1}
	minus := []api.Node{{Kind: api.KUnary, Op: api.OpNeg, Size: 2}, {Kind: api.KBool, At: 9, Size: 1}}
	for what, ahead := range map[string][]api.Node{
		"blocks": {{Kind: api.KBlock}},
		"whiles": {{Kind: api.KWhile}, yes, {Kind: api.KBlock}},
		"ifs":    {{Kind: api.KIf}, yes, {Kind: api.KBlock}},
		"elses":  {{Kind: api.KIf}, yes, {Kind: api.KBlock, Size: 1}, {Kind: api.KBlock}},
	} {
		if types, problem := checked(t, mainOf(nested(deep, ahead, nil, printed([]api.Node{one})...))); problem.Code != api.OK || types[len(types)-1] != "int" {
			t.Errorf("deep %s: %v", what, problem)
		}
		if _, problem := checked(t, mainOf(nested(deep, ahead, nil, printed(minus)...))); problem != (api.Problem{Code: api.ErrType, At: 9}) {
			t.Errorf("deep %s: %v", what, problem)
		}
	}
	// Ifs behind elses; the innermost one's condition is wrong, or that of the outermost one.
	var ifs []api.Node
	for i := range deep {
		ifs = append(ifs, api.Node{Kind: api.KIf, Size: 3 * (deep - i)}, yes, api.Node{Kind: api.KBlock, Size: 1})
	}
	if _, problem := checked(t, mainOf(ifs)); problem.Code != api.OK {
		t.Errorf("a long chain of ifs: %v", problem)
	}
	ifs[len(ifs)-2] = api.Node{Kind: api.KInt, At: 9, Size: 1}
	if _, problem := checked(t, mainOf(ifs)); problem != (api.Problem{Code: api.ErrType, At: 9}) {
		t.Errorf("a long chain of ifs: %v", problem)
	}
	ifs[1] = api.Node{Kind: api.KInt, At: 8, Size: 1}
	if _, problem := checked(t, mainOf(ifs)); problem != (api.Problem{Code: api.ErrType, At: 8}) {
		t.Errorf("a long chain of ifs: %v", problem)
	}
}

// P7.1, P7.3, P7.6: long lists of statements, arguments and variables.
func TestLong(t *testing.T) {
	const count = 1 << 18
	var prints []api.Node
	for i := range count {
		prints = append(prints, printed([]api.Node{{Kind: api.KInt, At: i, Size: 1}})...)
	}
	types, problem := checked(t, mainOf(prints))
	if problem.Code != api.OK || len(types) != 2*count+3 || types[2*count+2] != "int" || types[2*count+1] != "" {
		t.Errorf("many prints: %v", problem)
	}
	prints = append(prints, printed([]api.Node{{Kind: api.KUnary, Op: api.OpNeg, Size: 2}, {Kind: api.KText, At: 9, Size: 1}})...)
	if _, problem := checked(t, mainOf(prints)); problem != (api.Problem{Code: api.ErrType, At: 9}) {
		t.Errorf("many prints: %v", problem)
	}
	call := slices.Repeat([]api.Node{{Kind: api.KInt, Size: 1}}, count)
	call = append([]api.Node{{Kind: api.KDo, Size: count + 2}, {Kind: api.KCall, Name: "main", At: 7, Size: count + 1}}, call...)
	if _, problem := checked(t, mainOf(call)); problem != (api.Problem{Code: api.ErrCount, At: 7}) {
		t.Errorf("many arguments: %v", problem)
	}
	if _, problem := Of(api.Tree{Nodes: call[1:]}, nil); problem != (api.Problem{Code: api.ErrExpr, At: 7}) {
		t.Errorf("many arguments: %v", problem)
	}
	var vars []api.Var
	sum := nested(deep, []api.Node{{Kind: api.KBinary, Op: api.OpAdd}}, []api.Node{{Kind: api.KName, Size: 1}}, api.Node{Kind: api.KInt, Size: 1})
	named := 0
	for n := range sum {
		if sum[n].Kind == api.KName {
			sum[n].Name = "v" + strconv.Itoa(named)
			vars = append(vars, api.Var{Name: sum[n].Name, Type: "int"})
			named++
		}
	}
	if got, problem := Of(api.Tree{Nodes: sum}, vars); got != "int" || problem.Code != api.OK {
		t.Errorf("many variables: %q, %v", got, problem)
	}
	vars = append(vars, api.Var{Name: "v77", Type: "bool"})
	if got, problem := Of(api.Tree{Nodes: sum}, vars); got != "" || problem.Code != api.ErrType {
		t.Errorf("many variables: %q, %v", got, problem)
	}
}

// P7.1, P7.2, P7.3, P7.6: any field of any node of a tree changed.
func TestChangedTrees(t *testing.T) {
	codes := map[api.Errno]int{}
	for i := range 15000 {
		g := &grower{Rand: rand.New(rand.NewSource(int64(i)))}
		nodes := g.program().tree().Nodes
		if i%4 == 0 {
			g.scopes = [][]api.Var{{{Name: "a", Type: "int"}}}
			nodes = g.expr(g.typing(), 3).tree().Nodes
		}
		node := &nodes[g.Intn(len(nodes))]
		switch g.Intn(9) {
		case 0, 1:
			node.Kind = api.Kind(g.Intn(32) - 1)
		case 2:
			node.At = []int{-1, 0, 7, math.MaxInt}[g.Intn(4)]
		case 3:
			node.Name = []string{"", "v1", "v2", "main", "if", "x y"}[g.Intn(6)]
		case 4, 5:
			node.Type = said(g.Rand)
		case 6:
			node.Op = api.Op(g.Intn(18) - 1)
		case 7:
			node.Int = int64(g.Intn(4) - 1)
		case 8:
			node.Size += g.Intn(5) - 2
		}
		p := api.Tree{Nodes: nodes}
		codes[holds(t, p).Code]++
		isOf(t, p, []api.Var{{Name: "a", Type: "int"}})
		types := make([]string, len(nodes)-g.Intn(2))
		for n := range types {
			types[n] = said(g.Rand)
		}
		follows(t, p, types)
	}
	for _, errno := range []api.Errno{api.OK, api.ErrArg, api.ErrType} {
		if codes[errno] < 200 {
			t.Errorf("error %d was reached %d times only: %v", errno, codes[errno], codes)
		}
	}
}

// P7.6: any lists of nodes, any Scoped, any types, any variables.
func TestAnything(t *testing.T) {
	r := rand.New(rand.NewSource(1))
	numbers := func() []int {
		list := make([]int, r.Intn(7))
		for i := range list {
			list[i] = []int{-1, 0, 1, 2, math.MinInt, math.MaxInt}[r.Intn(6)]
		}
		return list
	}
	for range 100000 {
		nodes := make([]api.Node, r.Intn(7))
		for i := range nodes {
			nodes[i] = api.Node{Kind: api.Kind(r.Intn(32) - 1), Size: len(nodes) - i}
			if i < 3 && r.Intn(3) > 0 {
				nodes[i].Kind = []api.Kind{api.KProgram, api.KFunc, api.KBlock}[i]
			}
			if r.Intn(3) == 0 {
				nodes[i].Size = r.Intn(8) - 1
			}
			if r.Intn(2) == 0 || nodes[i].Kind == api.KFunc {
				nodes[i].Name = []string{"main", "a"}[r.Intn(2)]
			}
			if r.Intn(4) == 0 {
				nodes[i].Type = said(r)
			}
			if r.Intn(4) == 0 {
				nodes[i].Op = api.Op(r.Intn(18) - 1)
			}
		}
		p := api.Tree{Nodes: nodes}
		holds(t, p)
		isOf(t, p, []api.Var{{Name: "a", Type: said(r)}, {Name: "main", Type: said(r)}})
		s := api.Scoped{Slots: numbers(), Calls: numbers(), Targets: numbers(), Owners: numbers()}
		for range r.Intn(3) {
			s.Funcs = append(s.Funcs, api.Func{Name: "main", Node: r.Intn(5) - 2, Params: r.Intn(3) - 1, Slots: r.Intn(3) - 1, Vars: make([]api.Var, r.Intn(3))})
		}
		if types, problem := Check(p, s); types != nil || problem != (api.Problem{Code: api.ErrArg}) {
			t.Fatalf("types by chance: %v, %v: %q, %v", p, s, types, problem)
		}
		if ok, n := Follows(p, s, make([]string, len(nodes))); ok || n != 0 {
			t.Fatalf("types by chance: %v, %v: %d", p, s, n)
		}
	}
}

// roomy is a list with spare room behind it, with something in it.
func roomy[T any](list []T, spare T) []T {
	return append(slices.Clone(list), spare, spare)[:len(list)]
}

func roomyScoped(s api.Scoped) api.Scoped {
	c := api.Scoped{Slots: roomy(s.Slots, 5), Calls: roomy(s.Calls, 5), Targets: roomy(s.Targets, 5), Owners: roomy(s.Owners, 5)}
	for _, f := range s.Funcs {
		f.Vars = roomy(f.Vars, api.Var{Name: "spare"})
		c.Funcs = append(c.Funcs, f)
	}
	c.Funcs = roomy(c.Funcs, api.Func{Name: "spare"})
	return c
}

// wholeScoped is a Scoped with the spare room of its lists.
func wholeScoped(s api.Scoped) api.Scoped {
	all := func(list []int) []int { return list[:cap(list)] }
	c := api.Scoped{Funcs: slices.Clone(s.Funcs[:cap(s.Funcs)]), Slots: all(s.Slots), Calls: all(s.Calls), Targets: all(s.Targets), Owners: all(s.Owners)}
	for i := range c.Funcs {
		c.Funcs[i].Vars = c.Funcs[i].Vars[:cap(c.Funcs[i].Vars)]
	}
	return c
}

// P7.6: what is handed in is not changed, spare room included; asked again, the answer is the same.
func TestNothingChanged(t *testing.T) {
	for i := range 300 {
		g := &grower{Rand: rand.New(rand.NewSource(int64(i))), wild: 10 * (i % 3)}
		p := g.program().tree()
		p.Nodes = roomy(p.Nodes, api.Node{Name: "spare"})
		s, _ := scope.Resolve(p)
		s = roomyScoped(s)
		nodes, scoped := told(p.Nodes[:cap(p.Nodes)]), told(wholeScoped(s))
		types, problem := Check(p, s)
		again, problemAgain := Check(p, s)
		if told(types) != told(again) || problem != problemAgain {
			t.Fatalf("another answer the second time: %q, %q", types, again)
		}
		if types == nil {
			types = make([]string, len(p.Nodes))
		}
		types = roomy(types, "spare")
		kept := told(types[:cap(types)])
		ok, n := Follows(p, s, types)
		if okAgain, nAgain := Follows(p, s, types); ok != okAgain || n != nAgain {
			t.Fatalf("another answer the second time: %d, %d", n, nAgain)
		}
		if told(p.Nodes[:cap(p.Nodes)]) != nodes || told(wholeScoped(s)) != scoped || told(types[:cap(types)]) != kept {
			t.Fatalf("something was changed of\n%s", dump(p))
		}
		vars := roomy(g.variables(), api.Var{Name: "spare"})
		g.scopes = [][]api.Var{vars}
		e := g.expr(g.typing(), 3).tree()
		e.Nodes = roomy(e.Nodes, api.Node{Name: "spare"})
		nodes, kept = told(e.Nodes[:cap(e.Nodes)]), told(vars[:cap(vars)])
		typing, problem := Of(e, vars)
		if typingAgain, problemAgain := Of(e, vars); typing != typingAgain || problem != problemAgain {
			t.Fatalf("another answer the second time: %q, %q", typing, typingAgain)
		}
		if told(e.Nodes[:cap(e.Nodes)]) != nodes || told(vars[:cap(vars)]) != kept {
			t.Fatalf("something was changed of\n%s", dump(e))
		}
	}
}

// span is a piece of memory.
type span struct {
	first, end uintptr
}

func textSpan(text string) span {
	first := uintptr(unsafe.Pointer(unsafe.StringData(text)))
	return span{first, first + uintptr(len(text))}
}

func (a span) meets(b span) bool {
	return a.first < b.end && b.first < a.end
}

// P7.6: answers are new memory.
func TestNewMemory(t *testing.T) {
	p, s := named(t, "fn f(aa: [int], bb: text): [text] { return new text[aa[0]]; } fn main() { var dd: [[int]] = new [int][1]; print dd[0][0], f(dd[0], \"a\")[0]; }")
	// Texts of their own: those of constants may be one for all.
	own := func(text *string) { *text = string([]byte(*text)) }
	var given []span
	for n := range p.Nodes {
		own(&p.Nodes[n].Type)
		given = append(given, textSpan(p.Nodes[n].Type))
	}
	for _, text := range scopedTexts(s) {
		own(text)
		given = append(given, textSpan(*text))
	}
	types, problem := Check(p, s)
	other, _ := Check(p, s)
	if problem.Code != api.OK || unsafe.SliceData(types) == unsafe.SliceData(other) {
		t.Fatalf("two answers share memory, or there is none: %v", problem)
	}
	vars := []api.Var{{Name: "a", Type: "[[int]]"}}
	own(&vars[0].Type)
	given = append(given, textSpan(vars[0].Type))
	typing, _ := Of(expression(t, "a"), vars)
	element, _ := Of(expression(t, "a[0]"), vars)
	for _, text := range append(slices.Clone(types), typing, element) {
		for _, g := range given {
			if textSpan(text).meets(g) {
				t.Fatalf("the type %q shares memory with what was handed in", text)
			}
		}
	}
	// Whoever fills an answer with something else leaves the next one as it is.
	for i := range types[:cap(types)] {
		types[:cap(types)][i] = "x"
	}
	if again, _ := Check(p, s); !slices.Equal(again, other) {
		t.Errorf("an answer changed with another one: %q", again)
	}
	if ok, _ := Follows(p, s, other); !ok || tree.Valid(p) != api.OK {
		t.Errorf("the types %q break the rules", other)
	}
}
