package scope

import (
	"slices"
	"strings"

	"retrace/api"
)

// hiddenSlots are the counter and the end that a for keeps beside its variable.
const hiddenSlots = 2

// resolver notes what it finds out of a tree's names.
type resolver struct {
	sight
	scoped  api.Scoped
	numbers map[string]int // of the functions, by name
}

func newResolver(nodes []api.Node) *resolver {
	unset := func() []int { return slices.Repeat([]int{-1}, len(nodes)) }
	return &resolver{
		sight:   newSight(nodes),
		scoped:  api.Scoped{Slots: unset(), Calls: unset(), Targets: unset(), Owners: unset()},
		numbers: map[string]int{},
	}
}

// functions lists the functions of the tree, or tells the first thing that is wrong with them.
func (r *resolver) functions() api.Problem {
	for n := 1; n < len(r.nodes); n = r.behind(n) {
		node := r.nodes[n]
		number := len(r.scoped.Funcs)
		if _, known := r.numbers[node.Name]; known {
			return api.Problem{Code: api.ErrTwice, At: node.At}
		}
		if number == api.MaxFuncs {
			return api.Problem{Code: api.ErrMany, At: node.At}
		}
		r.numbers[node.Name] = number
		r.scoped.Funcs = append(r.scoped.Funcs, r.function(n, number))
	}
	number, known := r.numbers["main"]
	if !known {
		return api.Problem{Code: api.ErrMain, At: r.nodes[0].At}
	}
	if first := r.scoped.Funcs[number]; first.Params > 0 || first.Result != "" {
		return api.Problem{Code: api.ErrMain, At: r.nodes[first.Node].At}
	}
	return api.Problem{}
}

// function lists the variables of a function. They have their slots from their order alone, wherever they are seen.
func (r *resolver) function(n, number int) api.Func {
	f := api.Func{Name: strings.Clone(r.nodes[n].Name), Node: n, Result: strings.Clone(r.nodes[n].Type)}
	for u := n; u < r.behind(n); u++ {
		r.scoped.Owners[u] = number
		node := r.nodes[u]
		typing := node.Type
		switch node.Kind {
		case api.KParam:
			f.Params++
		case api.KVar:
		case api.KFor:
			f.Slots += hiddenSlots
			typing = "int"
		default:
			continue
		}
		slot := len(f.Vars)
		r.scoped.Slots[u] = slot
		f.Vars = append(f.Vars, api.Var{Name: strings.Clone(node.Name), Type: strings.Clone(typing), Slot: slot, Node: u})
	}
	f.Slots += len(f.Vars)
	return f
}

// resolve notes what the node that the sight has come to means, or tells what is wrong with it.
func (r *resolver) resolve(n int) api.Errno {
	switch node := r.nodes[n]; node.Kind {
	case api.KFunc:
		if r.scoped.Funcs[r.scoped.Owners[n]].Slots > api.MaxSlots {
			return api.ErrMany
		}
	case api.KParam, api.KVar:
		if r.declaresTwice(n) {
			return api.ErrTwice
		}
	case api.KName:
		return r.resolveName(n)
	case api.KHook:
		if node.Name != "" {
			return r.resolveName(n)
		}
	case api.KCall:
		return r.resolveCall(n)
	case api.KWhile, api.KFor:
		if _, found := r.loopAround(node.Label); found && node.Label != "" {
			return api.ErrTwice
		}
	case api.KBreak, api.KContinue:
		return r.resolveTarget(n)
	}
	return api.OK
}

func (r *resolver) resolveName(n int) api.Errno {
	v, seen := r.meaning(r.nodes[n].Name)
	if !seen {
		return api.ErrUnseen
	}
	r.scoped.Slots[n] = r.scoped.Slots[v]
	return api.OK
}

func (r *resolver) resolveCall(n int) api.Errno {
	number, known := r.numbers[r.nodes[n].Name]
	if !known {
		return api.ErrUnseen
	}
	r.scoped.Calls[n] = number
	return api.OK
}

func (r *resolver) resolveTarget(n int) api.Errno {
	loop, found := r.loopAround(r.nodes[n].Label)
	if !found {
		return api.ErrLoop
	}
	r.scoped.Targets[n] = loop
	return api.OK
}
