package scope

import (
	"slices"

	"retrace/api"
	"retrace/tree"
)

// chapter tells what the chapter says of a tree, word by word and without care for how long it takes.
type chapter struct {
	nodes   []api.Node
	parents []int
	vars    []variable
}

type variable struct {
	name, typing string
	node, block  int
}

// chapterOf reads a tree that has a KProgram at its root.
func chapterOf(t api.Tree) chapter {
	c := chapter{nodes: t.Nodes}
	for n := range c.nodes {
		parent := n - 1
		for parent >= 0 && c.last(parent) < n {
			parent--
		}
		c.parents = append(c.parents, parent)
	}
	for n, node := range c.nodes {
		switch node.Kind {
		case api.KParam:
			c.vars = append(c.vars, variable{node.Name, node.Type, n, c.lastKid(c.parents[n])})
		case api.KVar:
			c.vars = append(c.vars, variable{node.Name, node.Type, n, c.parents[n]})
		case api.KFor:
			c.vars = append(c.vars, variable{node.Name, "int", n, c.lastKid(n)})
		}
	}
	return c
}

func (c chapter) last(n int) int {
	return n + c.nodes[n].Size - 1
}

func (c chapter) lastKid(n int) int {
	kid := n + 1
	for c.last(kid) != c.last(n) {
		kid = c.last(kid) + 1
	}
	return kid
}

func (c chapter) within(n, u int) bool {
	return n <= u && u <= c.last(n)
}

func (c chapter) seen(v variable, u int) bool {
	return c.within(v.block, u) && (c.nodes[v.node].Kind != api.KVar || u > c.last(v.node))
}

// means is the variable that a name means at a node: of blocks around one node the innermost has the greatest number.
func (c chapter) means(name string, u int) (best variable, any bool) {
	for _, v := range c.vars {
		if v.name == name && c.seen(v, u) && (!any || v.block > best.block) {
			best, any = v, true
		}
	}
	return best, any
}

// around is the loops around a node, innermost first.
func (c chapter) around(u int) []int {
	var loops []int
	for n := c.parents[u]; n >= 0; n = c.parents[n] {
		if kind := c.nodes[n].Kind; (kind == api.KWhile || kind == api.KFor) && c.within(c.lastKid(n), u) {
			loops = append(loops, n)
		}
	}
	return loops
}

// target is the innermost loop around a node of that label, or any for none; -1 if there is none.
func (c chapter) target(label string, u int) int {
	for _, loop := range c.around(u) {
		if label == "" || c.nodes[loop].Label == label {
			return loop
		}
	}
	return -1
}

func (c chapter) funcs() []int {
	var funcs []int
	for n, node := range c.nodes {
		if node.Kind == api.KFunc {
			funcs = append(funcs, n)
		}
	}
	return funcs
}

func (c chapter) named(name string) int {
	return slices.IndexFunc(c.funcs(), func(n int) bool { return c.nodes[n].Name == name })
}

func (c chapter) owner(u int) int {
	return slices.IndexFunc(c.funcs(), func(n int) bool { return c.within(n, u) })
}

func (c chapter) tell(number int) api.Func {
	n := c.funcs()[number]
	f := api.Func{Name: c.nodes[n].Name, Node: n, Result: c.nodes[n].Type}
	for _, v := range c.vars {
		if c.within(n, v.node) {
			f.Vars = append(f.Vars, api.Var{Name: v.name, Type: v.typing, Slot: len(f.Vars), Node: v.node})
			f.Slots++
		}
	}
	for u := n; u <= c.last(n); u++ {
		switch c.nodes[u].Kind {
		case api.KParam:
			f.Params++
		case api.KFor:
			f.Slots += 2
		}
	}
	return f
}

// problem is what P6.1 says.
func (c chapter) problem() api.Problem {
	funcs := c.funcs()
	for i, n := range funcs {
		if c.named(c.nodes[n].Name) < i {
			return api.Problem{Code: api.ErrTwice, At: c.nodes[n].At}
		}
		if i >= 60 {
			return api.Problem{Code: api.ErrMany, At: c.nodes[n].At}
		}
	}
	main := c.named("main")
	if main < 0 {
		return api.Problem{Code: api.ErrMain, At: c.nodes[0].At}
	}
	if f := c.tell(main); f.Params > 0 || f.Result != "" {
		return api.Problem{Code: api.ErrMain, At: c.nodes[funcs[main]].At}
	}
	for n, node := range c.nodes {
		if errno := c.wrong(n); errno != api.OK {
			return api.Problem{Code: errno, At: node.At}
		}
	}
	return api.Problem{}
}

func (c chapter) wrong(n int) api.Errno {
	node := c.nodes[n]
	switch node.Kind {
	case api.KFunc:
		if c.tell(c.owner(n)).Slots > 250 {
			return api.ErrMany
		}
	case api.KParam, api.KVar:
		own := c.vars[slices.IndexFunc(c.vars, func(v variable) bool { return v.node == n })]
		for _, v := range c.vars {
			if v.node < n && v.name == own.name && v.block == own.block {
				return api.ErrTwice
			}
		}
	case api.KName, api.KHook:
		if _, any := c.means(node.Name, n); node.Name != "" && !any {
			return api.ErrUnseen
		}
	case api.KCall:
		if c.named(node.Name) < 0 {
			return api.ErrUnseen
		}
	case api.KWhile, api.KFor:
		if node.Label != "" && c.target(node.Label, n) >= 0 {
			return api.ErrTwice
		}
	case api.KBreak, api.KContinue:
		if c.target(node.Label, n) < 0 {
			return api.ErrLoop
		}
	}
	return api.OK
}

// scoped is what P6.2 says, of a tree without a problem.
func (c chapter) scoped() api.Scoped {
	var s api.Scoped
	for number := range c.funcs() {
		s.Funcs = append(s.Funcs, c.tell(number))
	}
	for n, node := range c.nodes {
		slot, call, target := -1, -1, -1
		switch node.Kind {
		case api.KParam, api.KVar, api.KFor:
			slot = c.slot(n)
		case api.KName, api.KHook:
			if v, any := c.means(node.Name, n); any {
				slot = c.slot(v.node)
			}
		case api.KCall:
			call = c.named(node.Name)
		case api.KBreak, api.KContinue:
			target = c.target(node.Label, n)
		}
		s.Slots = append(s.Slots, slot)
		s.Calls = append(s.Calls, call)
		s.Targets = append(s.Targets, target)
		s.Owners = append(s.Owners, c.owner(n))
	}
	return s
}

func (c chapter) slot(n int) int {
	for _, v := range c.tell(c.owner(n)).Vars {
		if v.Node == n {
			return v.Slot
		}
	}
	panic("no variable's node")
}

// visible is what P6.3 says, of a tree without a problem.
func (c chapter) visible(n int) []api.Var {
	statements := []api.Kind{api.KBlock, api.KVar, api.KAssign, api.KIf, api.KWhile, api.KFor, api.KBreak, api.KContinue, api.KReturn, api.KPrint, api.KRead, api.KDo, api.KHook}
	if n < 0 || n >= len(c.nodes) || !slices.Contains(statements, c.nodes[n].Kind) {
		return nil
	}
	var visible []api.Var
	for _, v := range c.tell(c.owner(n)).Vars {
		if meant, any := c.means(v.Name, n); any && meant.node == v.Node {
			visible = append(visible, v)
		}
	}
	return visible
}

// want is what Resolve must answer to any tree.
func want(t api.Tree) (api.Scoped, api.Problem) {
	if tree.Valid(t) != api.OK || t.Nodes[0].Kind != api.KProgram {
		return api.Scoped{}, api.Problem{Code: api.ErrTree}
	}
	c := chapterOf(t)
	if problem := c.problem(); problem.Code != api.OK {
		return api.Scoped{}, problem
	}
	return c.scoped(), api.Problem{}
}
