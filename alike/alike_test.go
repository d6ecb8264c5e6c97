package alike

import (
	"slices"
	"testing"

	"retrace/api"
)

func some() api.Scoped {
	return api.Scoped{
		Funcs: []api.Func{
			{Name: "f", Node: 1, Params: 1, Result: "int", Slots: 4, Vars: []api.Var{{Name: "a", Type: "int", Slot: 0, Node: 2}, {Name: "b", Type: "text", Slot: 1, Node: 5}}},
			{Name: "main", Node: 9},
		},
		Slots:   []int{-1, 0, 1},
		Calls:   []int{-1, 1, 0},
		Targets: []int{-1, 4, -1},
		Owners:  []int{-1, 0, 1},
	}
}

// The layers hold what they are handed against a lower one's answer: anything else in it makes another one of it.
func TestScoped(t *testing.T) {
	if !Scoped(some(), some()) || !Scoped(api.Scoped{}, api.Scoped{}) {
		t.Fatalf("something is not like itself")
	}
	for what, change := range map[string]func(s *api.Scoped){
		"a name":              func(s *api.Scoped) { s.Funcs[0].Name = "g" },
		"a node":              func(s *api.Scoped) { s.Funcs[0].Node++ },
		"a number of params":  func(s *api.Scoped) { s.Funcs[1].Params = -1 },
		"a result":            func(s *api.Scoped) { s.Funcs[0].Result = "" },
		"a number of slots":   func(s *api.Scoped) { s.Funcs[1].Slots++ },
		"a variable's name":   func(s *api.Scoped) { s.Funcs[0].Vars[1].Name = "a" },
		"a variable's type":   func(s *api.Scoped) { s.Funcs[0].Vars[1].Type = "int" },
		"a variable's slot":   func(s *api.Scoped) { s.Funcs[0].Vars[1].Slot-- },
		"a variable's node":   func(s *api.Scoped) { s.Funcs[0].Vars[1].Node-- },
		"a variable too few":  func(s *api.Scoped) { s.Funcs[0].Vars = s.Funcs[0].Vars[:1] },
		"a variable too many": func(s *api.Scoped) { s.Funcs[1].Vars = make([]api.Var, 1) },
		"a function too few":  func(s *api.Scoped) { s.Funcs = s.Funcs[:1] },
		"a function too many": func(s *api.Scoped) { s.Funcs = append(s.Funcs, api.Func{}) },
		"functions swapped":   func(s *api.Scoped) { slices.Reverse(s.Funcs) },
		"a slot":              func(s *api.Scoped) { s.Slots[2]++ },
		"a call":              func(s *api.Scoped) { s.Calls[2]++ },
		"a target":            func(s *api.Scoped) { s.Targets[2]++ },
		"an owner":            func(s *api.Scoped) { s.Owners[2]++ },
		"no slots":            func(s *api.Scoped) { s.Slots = nil },
		"a call too many":     func(s *api.Scoped) { s.Calls = append(s.Calls, -1) },
		"a target too few":    func(s *api.Scoped) { s.Targets = s.Targets[:2] },
		"no owners":           func(s *api.Scoped) { s.Owners = nil },
		"nothing":             func(s *api.Scoped) { *s = api.Scoped{} },
	} {
		other := some()
		change(&other)
		if Scoped(some(), other) || Scoped(other, some()) {
			t.Errorf("%s changed: still alike", what)
		}
	}
}

func TestEmptyLists(t *testing.T) {
	a, b := some(), some()
	b.Funcs[1].Vars = []api.Var{}
	if !Scoped(a, b) || !Scoped(b, a) {
		t.Errorf("no variables, nil or not, are not alike")
	}
	empty := api.Scoped{Funcs: []api.Func{}, Slots: []int{}, Calls: make([]int, 0, 3), Targets: []int{}, Owners: []int{}}
	if !Scoped(api.Scoped{}, empty) || !Scoped(empty, api.Scoped{}) {
		t.Errorf("nothing, nil or not, is not alike")
	}
}

// What two programs say of their trees are the meanings of names, and the types; the trees and the texts may be others.
func TestProgram(t *testing.T) {
	one := api.Program{Text: "a", Tree: api.Tree{Nodes: make([]api.Node, 2)}, Scoped: some(), Types: []string{"", "int"}}
	other := api.Program{Text: "b", Scoped: some(), Types: []string{"", "int"}}
	if !Program(one, other) || !Program(other, one) || !Program(api.Program{}, api.Program{Types: []string{}}) {
		t.Fatalf("two programs that say the same are not alike")
	}
	for what, change := range map[string]func(p *api.Program){
		"a type":          func(p *api.Program) { p.Types[1] = "bool" },
		"a type too few":  func(p *api.Program) { p.Types = p.Types[:1] },
		"a type too many": func(p *api.Program) { p.Types = append(p.Types, "") },
		"a slot":          func(p *api.Program) { p.Scoped.Slots[2]++ },
		"a name":          func(p *api.Program) { p.Scoped.Funcs[0].Name = "g" },
		"all":             func(p *api.Program) { *p = api.Program{} },
	} {
		changed := api.Program{Scoped: some(), Types: []string{"", "int"}}
		change(&changed)
		if Program(one, changed) || Program(changed, one) {
			t.Errorf("%s changed: still alike", what)
		}
	}
}
