package flow

import (
	"iter"
	"slices"

	"retrace/api"
)

// ways tells, by node, how the statements of a program can be left. What is no statement neither returns nor ends.
type ways struct {
	nodes   []api.Node
	returns []bool
	ends    []bool
}

func newWays(nodes []api.Node) ways {
	w := ways{nodes: nodes, returns: make([]bool, len(nodes)), ends: make([]bool, len(nodes))}
	// From the last node on what stands within a statement is known ahead of it, so that a deep tree needs no deep calls.
	for n := range slices.Backward(nodes) {
		w.returns[n] = w.findReturns(n)
		w.ends[n] = w.findEnds(n)
	}
	return w
}

func (w ways) findReturns(n int) bool {
	returns := false
	switch w.nodes[n].Kind {
	case api.KReturn:
		returns = true
	case api.KBlock:
		for kid := range w.statements(n) {
			returns = w.returns[kid]
		}
	case api.KIf:
		one, other := w.branches(n)
		returns = w.returns[one] && other < w.behind(n) && w.returns[other]
	}
	return returns
}

func (w ways) findEnds(n int) bool {
	switch kind := w.nodes[n].Kind; kind {
	case api.KReturn, api.KBreak, api.KContinue:
		return false
	case api.KBlock:
		for kid := range w.statements(n) {
			if !w.ends[kid] {
				return false
			}
		}
		return true
	case api.KIf:
		one, other := w.branches(n)
		return w.ends[one] || other == w.behind(n) || w.ends[other]
	default:
		return api.KVar <= kind && kind <= api.KHook
	}
}

// gives tells whether a node gives the result of its function, or none where there is none, as far as it is asked for it.
func (w ways) gives(n int, result string) bool {
	switch node := w.nodes[n]; node.Kind {
	case api.KFunc:
		return result == "" || w.returns[w.body(n)]
	case api.KReturn:
		return (result != "") == (node.Size > 1)
	}
	return true
}

// deadIn tells the statements of a block's own that no way leads to.
func (w ways) deadIn(block int) []int {
	var dead []int
	statements := slices.Collect(w.statements(block))
reached:
	for i, kid := range statements {
		if !w.ends[kid] {
			dead = statements[i+1:]
			break reached
		}
	}
	return dead
}

// statements goes through those of a block that count: hooks are passed over.
func (w ways) statements(block int) iter.Seq[int] {
	return func(yield func(int) bool) {
		for kid := block + 1; kid < w.behind(block); kid = w.behind(kid) {
			if w.nodes[kid].Kind != api.KHook && !yield(kid) {
				return
			}
		}
	}
}

// branches are the two ways of an if; where it has no other way, the second is the node behind the if.
func (w ways) branches(n int) (one, other int) {
	one = w.behind(n + 1)
	return one, w.behind(one)
}

// body is the last kid of a function.
func (w ways) body(function int) int {
	kid := function + 1
	for w.nodes[kid].Kind == api.KParam {
		kid++
	}
	return kid
}

// behind is the node behind all that stands within a node.
func (w ways) behind(n int) int {
	return n + w.nodes[n].Size
}
