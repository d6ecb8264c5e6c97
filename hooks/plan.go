package hooks

import (
	"iter"

	"retrace/api"
)

// plan is what is to be put into a tree, by the tree's nodes: the rows of the hooks, one behind the other.
type plan struct {
	nodes  []api.Node
	ahead  map[int][]api.Hook // of a statement
	behind map[int][]api.Hook // of a statement
	begin  map[int][]api.Hook // of a block, ahead of all that stands in it
	end    map[int][]api.Hook // of a block, behind all that stands in it
}

// gather makes the plan of a program that has no hooks.
func gather(nodes []api.Node) plan {
	p := plan{
		nodes:  nodes,
		ahead:  map[int][]api.Hook{},
		behind: map[int][]api.Hook{},
		begin:  map[int][]api.Hook{},
		end:    map[int][]api.Hook{},
	}
	// Whether a block is a body, and whether a statement stands in a block, its parent knows.
	for n, node := range nodes {
		switch node.Kind {
		case api.KFunc:
			p.function(n)
		case api.KBlock:
			p.statements(n)
		case api.KIf, api.KWhile:
			p.ways(n)
		case api.KFor:
			p.ways(n)
			p.turns(n)
		}
	}
	return p
}

func (p plan) function(n int) {
	f := p.nodes[n]
	rows := []api.Hook{{Kind: api.EvCall, Node: n, Name: f.Name}}
	body := n
	for kid := range p.kids(n) {
		if p.nodes[kid].Kind == api.KParam {
			rows = append(rows, api.Hook{Kind: api.EvSet, Node: kid, Name: p.nodes[kid].Name})
		}
		body = kid
	}
	p.begin[body] = rows
	if f.Type == "" {
		p.end[body] = []api.Hook{{Kind: api.EvLeave, Node: n}}
	}
}

// statements plans for those of a block.
func (p plan) statements(block int) {
	for kid := range p.kids(block) {
		if p.nodes[kid].Kind == api.KBlock {
			p.block(kid)
			continue
		}
		p.ahead[kid] = []api.Hook{{Kind: api.EvStmt, Node: kid}}
		if row, ok := p.change(kid); ok {
			p.behind[kid] = []api.Hook{row}
		}
	}
}

// ways plans for the blocks of a statement that has some.
func (p plan) ways(n int) {
	for kid := range p.kids(n) {
		if p.nodes[kid].Kind == api.KBlock {
			p.block(kid)
		}
	}
}

func (p plan) block(n int) {
	p.begin[n] = []api.Hook{{Kind: api.EvEnter, Node: n}}
	p.end[n] = []api.Hook{{Kind: api.EvExit, Node: n}}
}

// turns plans for the variable of a for, which each turn sets when its block has begun.
func (p plan) turns(n int) {
	row := api.Hook{Kind: api.EvSet, Node: n, Name: p.nodes[n].Name}
	for kid := range p.kids(n) {
		if p.nodes[kid].Kind == api.KBlock {
			p.begin[kid] = append(p.begin[kid], row)
		}
	}
}

// change is the row of what a statement sets; most set nothing.
func (p plan) change(n int) (api.Hook, bool) {
	switch node := p.nodes[n]; node.Kind {
	case api.KVar:
		return api.Hook{Kind: api.EvSet, Node: n, Name: node.Name}, true
	case api.KAssign, api.KRead:
		// A place, and what is indexed in it, is the first kid each time.
		root := n + 1
		kind := api.EvSet
		for p.nodes[root].Kind == api.KIndex {
			root++
			kind = api.EvTouch
		}
		return api.Hook{Kind: kind, Node: n, Name: p.nodes[root].Name}, true
	}
	return api.Hook{}, false
}

func (p plan) kids(n int) iter.Seq[int] {
	return func(yield func(int) bool) {
		for kid := n + 1; kid < n+p.nodes[n].Size; kid += p.nodes[kid].Size {
			if !yield(kid) {
				return
			}
		}
	}
}
