package alike

import (
	"slices"
	"testing"

	"retrace/api"
)

func some() api.Scoped {
	return api.Scoped{
		Funcs: []api.Func{
			{Name: "f", Node: 1, Params: 1, Result: "int", Slots: 4, Vars: []api.Var{{Name: "a", Type: "int", Slot: 0, Node: 2}, {Name: "b", Type: "text", Slot: 1, Node: 5}}},
			{Name: "main", Node: 9},
		},
		Slots:   []int{-1, 0, 1},
		Calls:   []int{-1, 1, 0},
		Targets: []int{-1, 4, -1},
		Owners:  []int{-1, 0, 1},
	}
}

// The layers hold what they are handed against a lower one's answer: anything else in it makes another one of it.
func TestScoped(t *testing.T) {
	if !Scoped(some(), some()) || !Scoped(api.Scoped{}, api.Scoped{}) {
		t.Fatalf("something is not like itself")
	}
	for what, change := range map[string]func(s *api.Scoped){
		"a name":              func(s *api.Scoped) { s.Funcs[0].Name = "g" },
		"a node":              func(s *api.Scoped) { s.Funcs[0].Node++ },
		"a number of params":  func(s *api.Scoped) { s.Funcs[1].Params = -1 },
		"a result":            func(s *api.Scoped) { s.Funcs[0].Result = "" },
		"a number of slots":   func(s *api.Scoped) { s.Funcs[1].Slots++ },
		"a variable's name":   func(s *api.Scoped) { s.Funcs[0].Vars[1].Name = "a" },
		"a variable's type":   func(s *api.Scoped) { s.Funcs[0].Vars[1].Type = "int" },
		"a variable's slot":   func(s *api.Scoped) { s.Funcs[0].Vars[1].Slot-- },
		"a variable's node":   func(s *api.Scoped) { s.Funcs[0].Vars[1].Node-- },
		"a variable too few":  func(s *api.Scoped) { s.Funcs[0].Vars = s.Funcs[0].Vars[:1] },
		"a variable too many": func(s *api.Scoped) { s.Funcs[1].Vars = make([]api.Var, 1) },
		"a function too few":  func(s *api.Scoped) { s.Funcs = s.Funcs[:1] },
		"a function too many": func(s *api.Scoped) { s.Funcs = append(s.Funcs, api.Func{}) },
		"functions swapped":   func(s *api.Scoped) { slices.Reverse(s.Funcs) },
		"a slot":              func(s *api.Scoped) { s.Slots[2]++ },
		"a call":              func(s *api.Scoped) { s.Calls[2]++ },
		"a target":            func(s *api.Scoped) { s.Targets[2]++ },
		"an owner":            func(s *api.Scoped) { s.Owners[2]++ },
		"no slots":            func(s *api.Scoped) { s.Slots = nil },
		"a call too many":     func(s *api.Scoped) { s.Calls = append(s.Calls, -1) },
		"a target too few":    func(s *api.Scoped) { s.Targets = s.Targets[:2] },
		"no owners":           func(s *api.Scoped) { s.Owners = nil },
		"nothing":             func(s *api.Scoped) { *s = api.Scoped{} },
	} {
		other := some()
		change(&other)
		if Scoped(some(), other) || Scoped(other, some()) {
			t.Errorf("%s changed: still alike", what)
		}
	}
}

func TestEmptyLists(t *testing.T) {
	a, b := some(), some()
	b.Funcs[1].Vars = []api.Var{}
	if !Scoped(a, b) || !Scoped(b, a) {
		t.Errorf("no variables, nil or not, are not alike")
	}
	empty := api.Scoped{Funcs: []api.Func{}, Slots: []int{}, Calls: make([]int, 0, 3), Targets: []int{}, Owners: []int{}}
	if !Scoped(api.Scoped{}, empty) || !Scoped(empty, api.Scoped{}) {
		t.Errorf("nothing, nil or not, is not alike")
	}
}

// What two programs say of their trees are the meanings of names, and the types; the trees and the texts may be others.
func TestProgram(t *testing.T) {
	one := api.Program{Text: "a", Tree: api.Tree{Nodes: make([]api.Node, 2)}, Scoped: some(), Types: []string{"", "int"}}
	other := api.Program{Text: "b", Scoped: some(), Types: []string{"", "int"}}
	if !Program(one, other) || !Program(other, one) || !Program(api.Program{}, api.Program{Types: []string{}}) {
		t.Fatalf("two programs that say the same are not alike")
	}
	for what, change := range map[string]func(p *api.Program){
		"a type":          func(p *api.Program) { p.Types[1] = "bool" },
		"a type too few":  func(p *api.Program) { p.Types = p.Types[:1] },
		"a type too many": func(p *api.Program) { p.Types = append(p.Types, "") },
		"a slot":          func(p *api.Program) { p.Scoped.Slots[2]++ },
		"a name":          func(p *api.Program) { p.Scoped.Funcs[0].Name = "g" },
		"all":             func(p *api.Program) { *p = api.Program{} },
	} {
		changed := api.Program{Scoped: some(), Types: []string{"", "int"}}
		change(&changed)
		if Program(one, changed) || Program(changed, one) {
			t.Errorf("%s changed: still alike", what)
		}
	}
}

func someCode() api.Code {
	return api.Code{
		Instrs: []api.Instr{{Op: api.InInt, A: 1}, {Op: api.InShow, A: 2, B: 3}},
		Entrys: []api.Entry{{Name: "f", Start: 0, Params: 1, Sorts: []api.Sort{1, 3}, Result: 2}, {Name: "main", Start: 1}},
		Texts:  []string{"a", "b"},
		Main:   1,
	}
}

// Anything else in a code makes another one of it.
func TestCode(t *testing.T) {
	if !Code(someCode(), someCode()) || !Code(api.Code{}, api.Code{}) {
		t.Fatalf("a code is not like itself")
	}
	for what, change := range map[string]func(c *api.Code){
		"an instruction":          func(c *api.Code) { c.Instrs[0].Op = api.InBool },
		"an A":                    func(c *api.Code) { c.Instrs[1].A++ },
		"a B":                     func(c *api.Code) { c.Instrs[1].B-- },
		"an instruction too few":  func(c *api.Code) { c.Instrs = c.Instrs[:1] },
		"an instruction too many": func(c *api.Code) { c.Instrs = append(c.Instrs, api.Instr{}) },
		"a name":                  func(c *api.Code) { c.Entrys[0].Name = "" },
		"a start":                 func(c *api.Code) { c.Entrys[1].Start++ },
		"a number of params":      func(c *api.Code) { c.Entrys[0].Params++ },
		"a sort":                  func(c *api.Code) { c.Entrys[0].Sorts[1]++ },
		"a sort too few":          func(c *api.Code) { c.Entrys[0].Sorts = c.Entrys[0].Sorts[:1] },
		"a sort too many":         func(c *api.Code) { c.Entrys[1].Sorts = make([]api.Sort, 1) },
		"a result":                func(c *api.Code) { c.Entrys[0].Result = 0 },
		"a function too few":      func(c *api.Code) { c.Entrys = c.Entrys[:1] },
		"a function too many":     func(c *api.Code) { c.Entrys = append(c.Entrys, api.Entry{}) },
		"functions swapped":       func(c *api.Code) { slices.Reverse(c.Entrys) },
		"a text":                  func(c *api.Code) { c.Texts[1] = "c" },
		"a text too few":          func(c *api.Code) { c.Texts = c.Texts[:1] },
		"a text too many":         func(c *api.Code) { c.Texts = append(c.Texts, "") },
		"main":                    func(c *api.Code) { c.Main = 0 },
		"all":                     func(c *api.Code) { *c = api.Code{} },
	} {
		other := someCode()
		change(&other)
		if Code(someCode(), other) || Code(other, someCode()) {
			t.Errorf("%s changed: still alike", what)
		}
	}
	other := someCode()
	other.Entrys[1].Sorts = []api.Sort{}
	empty := api.Code{Instrs: []api.Instr{}, Entrys: []api.Entry{}, Texts: make([]string, 0, 2)}
	if !Code(someCode(), other) || !Code(other, someCode()) || !Code(empty, api.Code{}) {
		t.Errorf("lists that are empty, nil or not, are not alike")
	}
}
