package compile

import (
	"math/rand"
	"slices"
	"strings"
	"testing"

	"retrace/alike"
	"retrace/api"
	"retrace/flow"
)

const example = "fn f(a: int): int { return a; } fn main() { var x: int = f(1); if true { x = 2; } while true { break; } }"

func refuses(t *testing.T, what string, p api.Program) {
	t.Helper()
	if made, errno := Program(p); errno != api.ErrArg || !same(made, api.Code{}) {
		t.Errorf("%s: %d, %v", what, errno, made)
	}
}

// P15.1: a program in which anything else is said than the front says is no checked one; the text does not count.
func TestUnchecked(t *testing.T) {
	for what, change := range map[string]func(p *api.Program){
		"all":                    func(p *api.Program) { *p = api.Program{} },
		"all but the text":       func(p *api.Program) { *p = api.Program{Text: p.Text} },
		"all but the tree":       func(p *api.Program) { *p = api.Program{Tree: p.Tree} },
		"the types":              func(p *api.Program) { p.Types = nil },
		"the meanings":           func(p *api.Program) { p.Scoped = api.Scoped{} },
		"a node's size":          func(p *api.Program) { p.Tree.Nodes[0].Size++ },
		"a name":                 func(p *api.Program) { p.Tree.Nodes[14].Name = "y" },
		"the result":             func(p *api.Program) { p.Tree.Nodes[1].Type = "" },
		"a node too few":         func(p *api.Program) { p.Tree.Nodes = p.Tree.Nodes[:19] },
		"a node's slot":          func(p *api.Program) { p.Scoped.Slots[14]++ },
		"a call":                 func(p *api.Program) { p.Scoped.Calls[9] = 1 },
		"a target":               func(p *api.Program) { p.Scoped.Targets[19] = 0 },
		"an owner":               func(p *api.Program) { p.Scoped.Owners[3] = 1 },
		"a function's slots":     func(p *api.Program) { p.Scoped.Funcs[1].Slots++ },
		"a function's variables": func(p *api.Program) { p.Scoped.Funcs[1].Vars = nil },
		"a variable's type":      func(p *api.Program) { p.Scoped.Funcs[1].Vars[0].Type = "bool" },
		"functions swapped":      func(p *api.Program) { slices.Reverse(p.Scoped.Funcs) },
		"a type":                 func(p *api.Program) { p.Types[10] = "bool" },
		"a type of a statement":  func(p *api.Program) { p.Types[0] = "int" },
		"a type too many":        func(p *api.Program) { p.Types = append(p.Types, "") },
		"a type too few":         func(p *api.Program) { p.Types = p.Types[:19] },
		"a lone expression":      func(p *api.Program) { p.Tree.Nodes = []api.Node{{Kind: api.KInt, Size: 1}} },
	} {
		p := program(t, example)
		change(&p)
		refuses(t, what, p)
	}
	// A tree that is right in all but the ways.
	p := program(t, "fn f(): int { return 1; } fn main() { }")
	p.Tree.Nodes = slices.Delete(p.Tree.Nodes, 3, 5)
	p.Tree.Nodes[0].Size, p.Tree.Nodes[1].Size, p.Tree.Nodes[2].Size = 5, 2, 1
	refuses(t, "a way without return", p)
	p = program(t, example)
	want, _ := Program(p)
	for _, text := range []string{"", "fn", strings.Repeat("@", 1<<20)} {
		p.Text = text
		if made, errno := Program(p); errno != api.OK || !same(made, want) {
			t.Errorf("another text: %d", errno)
		}
	}
}

// What is no excess is not taken for one: a fault of the program's own goes on.
func TestReasons(t *testing.T) {
	if errno := reasonOf(nil); errno != api.OK {
		t.Errorf("of nothing: %d", errno)
	}
	if errno := reasonOf(excess{api.ErrSize}); errno != api.ErrSize {
		t.Errorf("of an excess: %d", errno)
	}
	defer func() {
		if recover() != "other" {
			t.Errorf("something else was swallowed")
		}
	}()
	reasonOf("other")
}

// P15.1: a program that is no checked one is ErrArg even where its code would be too great.
func TestUncheckedAndTooGreat(t *testing.T) {
	p := mainOf(t, printed(tower(401)))
	if _, errno := Program(p); errno != api.ErrSize {
		t.Errorf("too high: %d", errno)
	}
	p.Types[3] = "int"
	refuses(t, "too high and unchecked", p)
}

// P15.1, P15.8: anything of a program changed.
func TestChanged(t *testing.T) {
	codes := map[api.Errno]int{}
	for seed := range seeds(5000) {
		p, text := grow(t, 400000+seed%500, seed%3 == 0)
		r := rand.New(rand.NewSource(seed))
		node := &p.Tree.Nodes[r.Intn(len(p.Tree.Nodes))]
		list := [][]int{p.Scoped.Slots, p.Scoped.Calls, p.Scoped.Targets, p.Scoped.Owners}[r.Intn(4)]
		odd := []int{-1 << 63, -1, 0, 1, 2, 1<<63 - 1}[r.Intn(6)]
		switch r.Intn(12) {
		case 0, 1:
			node.Kind = api.Kind(r.Intn(32) - 1)
		case 2:
			node.At = odd
		case 3:
			node.Name = []string{"", "v1", "main", "if"}[r.Intn(4)]
		case 4:
			node.Type = []string{"", "int", "[bool]", "none"}[r.Intn(4)]
		case 5:
			node.Int = int64(odd)
		case 6:
			node.Size += r.Intn(5) - 2
		case 7:
			node.Size = odd
		case 8:
			node.Op = api.Op(r.Intn(17))
		case 9:
			node.Label = []string{"", "l0", "l1"}[r.Intn(3)]
		case 10:
			list[r.Intn(len(list))] = odd
		case 11:
			p.Types[r.Intn(len(p.Types))] = []string{"", "int", "bool"}[r.Intn(3)]
		}
		made, errno := Program(p)
		codes[errno]++
		q, problem := flow.Tree(p.Tree)
		if problem.Code != api.OK || !alike.Program(p, q) {
			if errno != api.ErrArg || !same(made, api.Code{}) {
				t.Fatalf("%s: changed, %d", text, errno)
			}
			continue
		}
		holds(t, p, text)
	}
	if codes[api.OK] < int(seeds(500)) || codes[api.ErrArg] < int(seeds(500)) {
		t.Errorf("too few of a kind: %v", codes)
	}
}

// P15.8: any lists of nodes, with what the front says of them, if it says something.
func TestAnything(t *testing.T) {
	r := rand.New(rand.NewSource(2))
	programs := 0
	for range seeds(100000) {
		nodes := make([]api.Node, r.Intn(9))
		for i := range nodes {
			nodes[i] = api.Node{Kind: api.Kind(r.Intn(32) - 1), Size: len(nodes) - i}
			if i < 3 && r.Intn(9) > 0 {
				nodes[i].Kind = []api.Kind{api.KProgram, api.KFunc, api.KBlock}[i]
			}
			if i >= 3 {
				nodes[i].Kind = []api.Kind{api.KHook, api.KReturn, api.KBlock, api.KHook, api.KPrint, api.KBool}[r.Intn(6)]
				nodes[i].Size = 1
				if nodes[i].Kind == api.KPrint {
					nodes[i].Size = 2
				}
			}
			switch nodes[i].Kind {
			case api.KFunc:
				nodes[i].Name = "main"
			case api.KHook, api.KReturn, api.KBool:
				nodes[i].Int = int64(r.Intn(2))
			}
			if r.Intn(30) == 0 {
				nodes[i].Size = []int{-1 << 63, -1, 0, 2, 3, 1<<63 - 1}[r.Intn(6)]
			}
		}
		q, problem := flow.Tree(api.Tree{Nodes: nodes})
		if problem.Code != api.OK {
			refuses(t, "nodes alone", api.Program{Tree: api.Tree{Nodes: nodes}})
			continue
		}
		programs++
		holds(t, q, "nodes")
	}
	if programs < int(seeds(5000)) {
		t.Errorf("only %d were programs", programs)
	}
}
