package hooks

import (
	"slices"

	"retrace/api"
)

// knot is a node with its kids: the chapter's table written out a second time, with nodes within one another and hooks that know their rows.
type knot struct {
	api.Node
	old  int // its number in the tree without hooks
	row  *api.Hook
	kids []*knot
}

// knots reads a tree.
func knots(nodes []api.Node, n int) *knot {
	k := &knot{Node: nodes[n], old: n}
	for kid := n + 1; kid < n+nodes[n].Size; kid += nodes[kid].Size {
		k.kids = append(k.kids, knots(nodes, kid))
	}
	return k
}

// list lays a knot out, with the rows of its hooks in their order; a hook's number is its row's place.
func (k *knot) list(nodes []api.Node, rows []api.Hook) ([]api.Node, []api.Hook) {
	n := len(nodes)
	if k.row != nil {
		rows = append(rows, *k.row)
		k.Int = int64(len(rows))
	}
	nodes = append(nodes, k.Node)
	for _, kid := range k.kids {
		nodes, rows = kid.list(nodes, rows)
	}
	nodes[n].Size = len(nodes) - n
	return nodes, rows
}

// bare is a hook statement without a name.
func bare(kind api.EventKind, of *knot, name string) *knot {
	return &knot{Node: api.Node{Kind: api.KHook}, row: &api.Hook{Kind: kind, Node: of.old, Name: name}}
}

// named is a hook statement with the name that its row has.
func named(kind api.EventKind, of *knot, name string) *knot {
	k := bare(kind, of, name)
	k.Name = name
	return k
}

// hook puts hooks into all that stands within a knot that is no block's.
func (k *knot) hook() {
	switch k.Kind {
	case api.KProgram:
		for _, f := range k.kids {
			f.hook()
		}
	case api.KFunc:
		body := k.kids[len(k.kids)-1]
		ahead := []*knot{bare(api.EvCall, k, k.Name)}
		for _, param := range k.kids[:len(k.kids)-1] {
			ahead = append(ahead, named(api.EvSet, param, param.Name))
		}
		var behind []*knot
		if k.Type == "" {
			behind = []*knot{bare(api.EvLeave, k, "")}
		}
		body.kids = slices.Concat(ahead, body.hooked(), behind)
	case api.KIf:
		k.kids[1].wrap()
		if len(k.kids) == 3 && k.kids[2].Kind == api.KIf {
			k.kids[2].hook()
		} else if len(k.kids) == 3 {
			k.kids[2].wrap()
		}
	case api.KWhile:
		k.kids[1].wrap()
	case api.KFor:
		k.kids[2].wrap(named(api.EvSet, k, k.Name))
	case api.KReturn:
		k.row = &api.Hook{Kind: api.EvReturn, Node: k.old}
	}
}

// wrap puts hooks into a block that is no function's body.
func (k *knot) wrap(more ...*knot) {
	k.kids = slices.Concat([]*knot{bare(api.EvEnter, k, "")}, more, k.hooked(), []*knot{bare(api.EvExit, k, "")})
}

// hooked is the statements of a block with those hooks that stand ahead of them and behind them.
func (k *knot) hooked() []*knot {
	var all []*knot
	for _, s := range k.kids {
		if s.Kind == api.KBlock {
			s.wrap()
			all = append(all, s)
			continue
		}
		s.hook()
		all = append(all, bare(api.EvStmt, s, ""), s)
		switch {
		case s.Kind == api.KVar:
			all = append(all, named(api.EvSet, s, s.Name))
		case (s.Kind == api.KAssign || s.Kind == api.KRead) && s.kids[0].Kind == api.KName:
			all = append(all, named(api.EvSet, s, s.kids[0].Name))
		case s.Kind == api.KAssign || s.Kind == api.KRead:
			all = append(all, named(api.EvTouch, s, s.kids[0].root()))
		}
	}
	return all
}

func (k *knot) root() string {
	if k.Kind == api.KName {
		return k.Name
	}
	return k.kids[0].root()
}

// wanted is what the chapter asks for of a checked program without hooks.
func wanted(p api.Program) ([]api.Node, []api.Hook, api.Errno) {
	k := knots(p.Tree.Nodes, 0)
	k.hook()
	nodes, rows := k.list(nil, nil)
	if len(nodes) > 40000 {
		return nil, nil, api.ErrSize
	}
	return nodes, rows, api.OK
}
