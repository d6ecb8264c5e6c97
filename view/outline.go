package view

import (
	"slices"
	"strings"

	"retrace/api"
)

// outline is what is asked of a program when an event comes.
type outline struct {
	funcs []api.Func
	sites []site // by node
}

// site is what is asked of a node.
type site struct {
	kind     api.Kind
	function int
	parent   int
	block    int  // the innermost one around it; 0, which is the root and so never open, if there is none
	deep     int  // how many blocks are around it: of an open block its place among the open ones
	slot     int  // of the variable that it declares, or that is at the root of its place; else -1
	element  bool // its place is an element
}

// outlineOf takes over the lists of a checked program that nobody else has.
func outlineOf(p api.Program) outline {
	nodes := p.Tree.Nodes
	sites := make([]site, len(nodes))
	for n, node := range nodes {
		s := &sites[n]
		s.kind, s.function = node.Kind, p.Scoped.Owners[n]
		s.slot, s.element = variableOf(p, n)
		within := site{parent: n, block: s.block, deep: s.deep}
		if node.Kind == api.KBlock {
			within.block, within.deep = n, s.deep+1
		}
		for kid := n + 1; kid < n+node.Size; kid += nodes[kid].Size {
			sites[kid] = within
		}
	}
	return outline{funcs: p.Scoped.Funcs, sites: sites}
}

// variableOf tells the slot of the variable that a node declares or sets, and whether it sets an element only.
func variableOf(p api.Program, n int) (slot int, element bool) {
	nodes := p.Tree.Nodes
	switch nodes[n].Kind {
	case api.KParam, api.KVar, api.KFor:
		return p.Scoped.Slots[n], false
	case api.KAssign, api.KRead:
		// A place, and what is indexed in it, is the first kid each time.
		root := n + 1
		for nodes[root].Kind == api.KIndex {
			root++
		}
		return p.Scoped.Slots[root], root > n+1
	}
	return -1, false
}

// variable is the one that a node declares or sets, if it does.
func (o outline) variable(n int) (v api.Var, some bool) {
	s := o.sites[n]
	if s.slot < 0 {
		return api.Var{}, false
	}
	return o.funcs[s.function].Vars[s.slot], true
}

// body is the block of a function.
func (o outline) body(function int) int {
	f := o.funcs[function]
	return f.Node + f.Params + 1 // a parameter has no kids
}

// copiedOutline is an outline as memory of its own.
func copiedOutline(o outline) outline {
	o.funcs, o.sites = slices.Clone(o.funcs), slices.Clone(o.sites)
	for n := range o.funcs {
		f := &o.funcs[n]
		f.Name, f.Result, f.Vars = strings.Clone(f.Name), strings.Clone(f.Result), slices.Clone(f.Vars)
		for slot, v := range f.Vars {
			f.Vars[slot] = copiedVar(v)
		}
	}
	return o
}

func copiedVar(v api.Var) api.Var {
	v.Name, v.Type = strings.Clone(v.Name), strings.Clone(v.Type)
	return v
}
