package flow

import (
	"math/rand"
	"slices"
	"strings"
	"testing"

	"retrace/api"
	"retrace/parse"
	"retrace/pretty"
	"retrace/scope"
	"retrace/types"
)

// wantFront is what the front's parts tell of a text, one after the other.
func wantFront(text string) (api.Program, api.Problem) {
	if len(text) > api.MaxSource {
		return api.Program{}, api.Problem{Code: api.ErrSize, At: api.MaxSource}
	}
	p, problem := parse.Program(text)
	if problem.Code != api.OK {
		return api.Program{}, problem
	}
	if len(p.Nodes) > api.MaxNodes {
		return api.Program{}, api.Problem{Code: api.ErrSize, At: p.Nodes[api.MaxNodes].At}
	}
	return wantRest(text, p, false)
}

// wantTree is likewise what they tell of a tree.
func wantTree(p api.Tree) (api.Program, api.Problem) {
	if _, ok := chapterOf(p); !ok {
		return api.Program{}, api.Problem{Code: api.ErrTree}
	}
	if len(p.Nodes) > api.MaxTree {
		return api.Program{}, api.Problem{Code: api.ErrSize, At: p.Nodes[api.MaxTree].At}
	}
	return wantRest("", p, true)
}

func wantRest(text string, p api.Tree, hooks bool) (api.Program, api.Problem) {
	s, problem := scope.Resolve(p)
	if problem.Code != api.OK {
		return api.Program{}, problem
	}
	typing, problem := types.Check(p, s)
	if problem.Code != api.OK {
		return api.Program{}, problem
	}
	if problem := wantCheck(p, hooks); problem.Code != api.OK {
		return api.Program{}, problem
	}
	return api.Program{Text: text, Tree: p, Scoped: s, Types: typing}, api.Problem{}
}

// fronts checks what Front tells of a text, and that what it takes is a checked program.
func fronts(t *testing.T, text string) api.Problem {
	t.Helper()
	wanted, problem := wantFront(text)
	p, got := Front(text)
	if got != problem || told(p) != told(wanted) {
		t.Fatalf("%.200q: %v, want %v", text, got, problem)
	}
	if got.At < 0 || got.At > len(text) {
		t.Fatalf("%.200q: at %d", text, got.At)
	}
	if got.Code == api.OK {
		q, again := Tree(p.Tree)
		if again != (api.Problem{}) || q.Text != "" || told(q.Scoped) != told(p.Scoped) || told(q.Types) != told(p.Types) || !slices.Equal(q.Tree.Nodes, p.Tree.Nodes) {
			t.Fatalf("%.200q is taken, but not its tree: %v", text, again)
		}
	}
	return got
}

// trees checks what Tree tells of a tree.
func trees(t *testing.T, p api.Tree) api.Problem {
	t.Helper()
	wanted, problem := wantTree(p)
	got, gotProblem := Tree(p)
	if gotProblem != problem || told(got) != told(wanted) {
		t.Fatalf("%v, want %v of\n%s", gotProblem, problem, dump(p))
	}
	return problem
}

// P8.4, P8.5: what a checked program holds.
func TestFrontTells(t *testing.T) {
	text := "fn f(a: int): int { return a; } # twice\nfn main() { print f(1); }"
	p, problem := Front(text)
	if problem != (api.Problem{}) || p.Text != text || len(p.Tree.Nodes) != 11 {
		t.Fatalf("%v, %d nodes, %q", problem, len(p.Tree.Nodes), p.Text)
	}
	if parsed := parsed(t, text); !slices.Equal(parsed.Nodes, p.Tree.Nodes) {
		t.Errorf("the tree is\n%s", dump(p.Tree))
	}
	if s := p.Scoped; len(s.Funcs) != 2 || s.Funcs[0].Name != "f" || s.Funcs[1].Name != "main" || len(s.Owners) != 11 || s.Slots[5] != 0 || s.Calls[9] != 0 || s.Owners[9] != 1 {
		t.Errorf("the names mean %v", s)
	}
	if wanted := []string{"", "", "", "", "", "int", "", "", "", "int", "int"}; !slices.Equal(p.Types, wanted) {
		t.Errorf("the types are %q", p.Types)
	}
	q, problem := Tree(p.Tree)
	p.Text = ""
	if problem != (api.Problem{}) || told(q) != told(p) {
		t.Errorf("of its tree: %v, %v", q, problem)
	}
	hooked := parsed(t, "fn main() { @1; var x: int = 1; @2 x; return @3; }")
	q, problem = Tree(hooked)
	if problem != (api.Problem{}) || !slices.Equal(q.Tree.Nodes, hooked.Nodes) || q.Scoped.Slots[6] != 0 || q.Types[5] != "int" {
		t.Errorf("with hooks: %v, %v", q, problem)
	}
}

// P8.4: what each part refuses, and P8.5 of the tree.
func TestFrontRefuses(t *testing.T) {
	for _, row := range []struct {
		marked string
		code   api.Errno
	}{
		{"^$", api.ErrByte}, {"fn main() { print ^007; }", api.ErrNumber}, {"fn main() { print ^\"a; }", api.ErrText}, {"fn ^abcdefghijklmnopqrstuvwxy() {}", api.ErrName},
		{"fn main() { print 1 ^}", api.ErrToken}, {"fn main() {^", api.ErrToken}, {"fn main() { var a: int = " + strings.Repeat("-", 40) + "^1; }", api.ErrDeep},
		{"^", api.ErrMain}, {"# nothing^", api.ErrMain}, {"^fn main(): int { return 1; }", api.ErrMain}, {"fn main() { ^x = 1; }", api.ErrUnseen}, {"fn main() { ^break; }", api.ErrLoop}, {"fn main() {} ^fn main() {}", api.ErrTwice},
		{"fn main() { var x: int = ^true; }", api.ErrType}, {"fn f(a: int) {} fn main() { ^f(); }", api.ErrCount}, {"fn f(): int { return ^true; } fn main() {}", api.ErrType},
		{"fn main() { ^return 1; }", api.ErrReturn}, {"^fn f(): int {} fn main() {}", api.ErrReturn}, {"fn f(): int { ^return; } fn main() {}", api.ErrReturn},
		{"fn main() { ^@1; }", api.ErrHook}, {"fn main() { ^return @2; }", api.ErrHook}, {"fn f(): int { return 1; ^@1; } fn main() {}", api.ErrHook},
	} {
		source, marks := unmark(row.marked)
		wanted := api.Problem{Code: row.code, At: marks[0]}
		if p, got := Front(source); got != wanted || told(p) != told(api.Program{}) {
			t.Errorf("%q: %v, want %v; %v", source, got, wanted, p)
		}
		fronts(t, source)
		p, problem := parse.Program(source)
		if problem.Code != api.OK {
			continue
		}
		if wanted.Code == api.ErrHook {
			wanted = api.Problem{}
		}
		q, got := Tree(p)
		if got != wanted || wanted.Code != api.OK && told(q) != told(api.Program{}) {
			t.Errorf("the tree of %q: %v, want %v; %v", source, got, wanted, q)
		}
	}
	for what, p := range notPrograms(t) {
		if q, got := Tree(p); got != (api.Problem{Code: api.ErrTree}) || told(q) != told(api.Program{}) {
			t.Errorf("%s: %v, %v", what, q, got)
		}
	}
}

// fault is a piece of a main's body that a part of the front refuses, with the mark where.
type fault struct {
	code   api.Errno
	marked string
}

// P8.4: the first of the front's parts that refuses a source tells, wherever in the text the others would.
func TestFrontOrder(t *testing.T) {
	const size, count = 0, 2
	faults := []fault{
		size:  {api.ErrSize, "^" + strings.Repeat(" ", api.MaxSource)},
		1:     {api.ErrToken, "^]"},
		count: {api.ErrSize, "^" + strings.Repeat("print 1;", 2010)},
		3:     {api.ErrUnseen, "^y = 1;"},
		4:     {api.ErrType, "var z: int = ^true;"},
		5:     {api.ErrReturn, "^return 1;"},
	}
	for set := range 1 << len(faults) {
		var chosen []int
		for i := range faults {
			if set>>i&1 == 1 {
				chosen = append(chosen, i)
			}
		}
		for _, backward := range []bool{false, true} {
			order := slices.Clone(chosen)
			if backward {
				slices.Reverse(order)
			}
			source := "fn main() { "
			ats := map[int]int{}
			for _, i := range order {
				piece, marks := unmark(faults[i].marked)
				ats[i] = len(source) + marks[0]
				source += piece
			}
			source += " }"
			// Which node is number MaxNodes hangs on what stands ahead of it.
			if p, problem := parse.Program(source); problem.Code == api.OK && len(p.Nodes) > api.MaxNodes {
				ats[count] = p.Nodes[api.MaxNodes].At
			}
			ats[size] = api.MaxSource
			wanted := api.Problem{}
			if len(chosen) > 0 {
				wanted = api.Problem{Code: faults[chosen[0]].code, At: ats[chosen[0]]}
			}
			if p, got := Front(source); got != wanted || got.Code != api.OK && told(p) != told(api.Program{}) {
				t.Errorf("faults %v, backward %v: %v, want %v", chosen, backward, got, wanted)
			}
		}
	}
}

// P8.5: the first of the parts that refuses a tree tells.
func TestTreeOrder(t *testing.T) {
	const name, typing, way, count, shape, all = 1, 2, 4, 8, 16, 32
	number := func(at int) api.Node { return api.Node{Kind: api.KInt, At: at, Size: 1} }
	pieces := [][]api.Node{
		{{Kind: api.KHook, Int: 1, Name: "y", At: 101, Size: 1}},
		{{Kind: api.KVar, Name: "z", Type: "bool", At: 102, Size: 2}, number(103)},
		{{Kind: api.KReturn, Int: 4, At: 104, Size: 2}, number(105)},
	}
	wants := []api.Problem{{Code: api.ErrUnseen, At: 101}, {Code: api.ErrType, At: 103}, {Code: api.ErrReturn, At: 104}}
	for set := range all {
		for _, backward := range []bool{false, true} {
			var chosen [][]api.Node
			wanted := api.Problem{}
			for i, piece := range pieces {
				if set&(name<<i) != 0 {
					chosen = append(chosen, piece)
					if wanted.Code == api.OK {
						wanted = wants[i]
					}
				}
			}
			if set&count != 0 {
				chosen = append(chosen, slices.Repeat([]api.Node{{Kind: api.KHook, Int: 1, At: 7, Size: 1}}, api.MaxTree))
			}
			if backward {
				slices.Reverse(chosen)
			}
			p := mainOf(slices.Concat(chosen...))
			if set&count != 0 {
				p.Nodes[api.MaxTree].At = 300
				wanted = api.Problem{Code: api.ErrSize, At: 300}
			}
			if set&shape != 0 {
				p.Nodes[2].Name = "x"
				wanted = api.Problem{Code: api.ErrTree}
			}
			if q, got := Tree(p); got != wanted || got.Code != api.OK && told(q) != told(api.Program{}) {
				t.Errorf("faults %b, backward %v: %v, want %v", set, backward, got, wanted)
			}
		}
	}
}

// P8.4: a source of just as many bytes as may be, and one more.
func TestLongSource(t *testing.T) {
	for _, row := range []struct{ begin, end string }{
		{"fn main() {}", ""}, {"", "fn main() {}"}, {"fn main() { # ", "\n}"}, {"fn main() {", "print 1; }"},
	} {
		room := api.MaxSource - len(row.begin) - len(row.end)
		text := row.begin + strings.Repeat(" ", room) + row.end
		if p, problem := Front(text); problem != (api.Problem{}) || p.Text != text {
			t.Errorf("%q .. %q of %d bytes: %v", row.begin, row.end, len(text), problem)
		}
		text = row.begin + strings.Repeat(" ", room+1) + row.end
		if p, problem := Front(text); problem != (api.Problem{Code: api.ErrSize, At: api.MaxSource}) || told(p) != told(api.Program{}) {
			t.Errorf("%q .. %q of %d bytes: %v", row.begin, row.end, len(text), problem)
		}
	}
	// Up to the limit it is the text that is looked at, beyond it the length alone.
	text := strings.Repeat(" ", api.MaxSource-1) + "$"
	if _, problem := Front(text); problem != (api.Problem{Code: api.ErrByte, At: api.MaxSource - 1}) {
		t.Errorf("a wrong last byte: %v", problem)
	}
	for _, text := range []string{"$" + text, text + "$", strings.Repeat("$", api.MaxSource+1), strings.Repeat("(", api.MaxScan+1)} {
		if _, problem := Front(text); problem != (api.Problem{Code: api.ErrSize, At: api.MaxSource}) {
			t.Errorf("%d wrong bytes: %v", len(text), problem)
		}
	}
}

// P8.4, P8.5: as many nodes as may be, and one more.
func TestManyNodes(t *testing.T) {
	text := "fn main() {" + strings.Repeat("print 1;", 1998) + "{}"
	if p, problem := Front(text + "}"); problem != (api.Problem{}) || len(p.Tree.Nodes) != api.MaxNodes {
		t.Errorf("%d nodes: %v", len(p.Tree.Nodes), problem)
	}
	if _, problem := Front(text + " {} }"); problem != (api.Problem{Code: api.ErrSize, At: len(text) + 1}) {
		t.Errorf("one node more: %v", problem)
	}
	if _, problem := Front(text + " {} print 1, 2; }"); problem != (api.Problem{Code: api.ErrSize, At: len(text) + 1}) {
		t.Errorf("some nodes more: %v", problem)
	}
	if _, problem := Tree(parsed(t, text+" {} }")); problem != (api.Problem{}) {
		t.Errorf("its tree: %v", problem)
	}
	hooks := make([]api.Node, api.MaxTree-3)
	for i := range hooks {
		hooks[i] = api.Node{Kind: api.KHook, Int: int64(i + 1), At: 10 + i, Size: 1}
	}
	p := mainOf(hooks)
	if q, problem := Tree(p); problem != (api.Problem{}) || !slices.Equal(q.Tree.Nodes, p.Nodes) || len(q.Types) != api.MaxTree {
		t.Errorf("%d nodes: %v", len(p.Nodes), problem)
	}
	for more := 1; more < 4; more++ {
		extra := slices.Repeat([]api.Node{{Kind: api.KBlock, At: 5, Size: 1}}, more)
		extra[0].At = 77
		if _, problem := Tree(mainOf(slices.Concat(hooks, extra))); problem != (api.Problem{Code: api.ErrSize, At: 77}) {
			t.Errorf("%d nodes more: %v", more, problem)
		}
	}
}

// P8.4, P8.5, P8.6: grown programs as trees and as sources, right and wrong ones.
func TestFrontGrown(t *testing.T) {
	const edits = "1a;{}()[] :=,@<\"\n!-"
	codes := map[api.Errno]int{}
	for i := range 3000 {
		g := &grower{Rand: rand.New(rand.NewSource(int64(i))), wild: []int{0, 0, 30}[i%3], hooks: i%5 == 0}
		p := g.program().tree()
		problem := trees(t, p)
		if g.wild == 0 && problem.Code != api.OK {
			t.Fatalf("%v of\n%s", problem, dump(p))
		}
		text, errno := pretty.Program(p)
		if errno != api.OK {
			t.Fatalf("no text: %d", errno)
		}
		codes[fronts(t, text).Code]++
		// A few bytes of the text changed.
		changed := []byte(text)
		for range 1 + g.Intn(3) {
			changed[g.Intn(len(changed))] = edits[g.Intn(len(edits))]
		}
		codes[fronts(t, string(changed)).Code]++
	}
	for _, errno := range []api.Errno{api.OK, api.ErrToken, api.ErrUnseen, api.ErrHook, api.ErrReturn} {
		if codes[errno] < 10 {
			t.Errorf("error %d was reached %d times only: %v", errno, codes[errno], codes)
		}
	}
}

// P8.5, P8.9: trees with a field changed.
func TestTreeChanged(t *testing.T) {
	codes := map[api.Errno]int{}
	for i := range 4000 {
		g := &grower{Rand: rand.New(rand.NewSource(int64(i))), wild: 2, hooks: true}
		p := g.program().tree()
		node := &p.Nodes[g.Intn(len(p.Nodes))]
		switch g.Intn(6) {
		case 0:
			node.Kind = api.Kind(g.Intn(32) - 1)
		case 1:
			node.Name = []string{"", "v1", "main", "f0"}[g.Intn(4)]
		case 2:
			node.Type = []string{"", "int", "bool", "text"}[g.Intn(4)]
		case 3:
			node.Label = []string{"", "l0", "l1"}[g.Intn(3)]
		case 4:
			node.Int = []int64{-1, 0, 1, 40000, 40001}[g.Intn(5)]
		case 5:
			node.Size += g.Intn(3) - 1
		}
		codes[trees(t, p).Code]++
	}
	for _, errno := range []api.Errno{api.OK, api.ErrTree, api.ErrUnseen, api.ErrType, api.ErrReturn} {
		if codes[errno] < 10 {
			t.Errorf("error %d was reached %d times only: %v", errno, codes[errno], codes)
		}
	}
}

// rehooked is a program with other hooks without a name and other numbers of returns: some put in, some taken out.
func (g *grower) rehooked(k *knot) *knot {
	c := tie(k.Node)
	if k.Kind == api.KReturn && g.Intn(2) == 0 {
		c.Int = int64(g.Intn(3))
	}
	more := func() {
		for k.Kind == api.KBlock && g.Intn(3) == 0 {
			c.kids = append(c.kids, g.hook())
		}
	}
	for _, kid := range k.kids {
		more()
		if kid.Kind != api.KHook || kid.Name != "" || g.Intn(2) == 0 {
			c.kids = append(c.kids, g.rehooked(kid))
		}
	}
	more()
	return c
}

// P8.7: hooks don't matter to the ways.
func TestHooksDontMatter(t *testing.T) {
	codes := map[api.Errno]int{}
	for i := range 4000 {
		g := &grower{Rand: rand.New(rand.NewSource(int64(i))), wild: []int{0, 30, 200}[i%3], hooks: i%4 > 0}
		k := g.program()
		p, q := k.tree(), g.rehooked(k).tree()
		if i%2 == 0 { // the place counts too, where it is told
			p, q = withoutPlaces(p), withoutPlaces(q)
		}
		one, other := Check(p, true), Check(q, true)
		if one.Code != other.Code || i%2 == 0 && one != other {
			t.Fatalf("%v, %v of\n%s\nand\n%s", one, other, dump(p), dump(q))
		}
		codes[one.Code]++
		kept := func(t api.Tree) (kinds []api.Kind) {
			for _, n := range Dead(t) {
				kinds = append(kinds, t.Nodes[n].Kind)
			}
			return kinds
		}
		if !slices.Equal(kept(p), kept(q)) {
			t.Fatalf("dead %v, %v of\n%s\nand\n%s", kept(p), kept(q), dump(p), dump(q))
		}
	}
	if codes[api.OK] < 500 || codes[api.ErrReturn] < 500 {
		t.Errorf("%v", codes)
	}
}

func withoutPlaces(t api.Tree) api.Tree {
	for n := range t.Nodes {
		t.Nodes[n].At = 0
	}
	return t
}

// P8.8: of a function with a result that Check takes, the body cannot end.
func TestReturningCannotEnd(t *testing.T) {
	asked := 0
	for i := range 3000 {
		g := &grower{Rand: rand.New(rand.NewSource(int64(i))), wild: 20, hooks: i%2 == 0}
		p := g.program().tree()
		if Check(p, true).Code != api.OK {
			continue
		}
		c := chapter{p.Nodes}
		for _, f := range c.kids(0) {
			if body := slices.Max(c.kids(f)); p.Nodes[f].Type != "" {
				asked++
				if Ends(p, body) {
					t.Fatalf("the body %d can end:\n%s", body, dump(p))
				}
			}
		}
	}
	if asked < 1000 {
		t.Errorf("only %d functions were asked", asked)
	}
}
