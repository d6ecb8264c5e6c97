package hooks

import (
	"strings"

	"retrace/api"
)

// weaver lays down the nodes of a new tree and numbers its hooks.
type weaver struct {
	nodes []api.Node
	rows  []api.Hook
	open  []part // whose kids are being laid down, the innermost last
}

// part is a node of the tree without hooks, and where it lies in the new one.
type part struct {
	old, place int
}

// weave goes through a tree once and lays down what is planned beside its own nodes.
func weave(nodes []api.Node, p plan) ([]api.Node, []api.Hook) {
	w := &weaver{}
	for n, node := range nodes {
		w.put(p.ahead[n])
		w.open = append(w.open, part{old: n, place: len(w.nodes)})
		w.keep(n, node)
		w.put(p.begin[n])
		for len(w.open) > 0 {
			last := w.open[len(w.open)-1]
			if last.old+nodes[last.old].Size > n+1 {
				break
			}
			w.put(p.end[last.old])
			w.nodes[last.place].Size = len(w.nodes) - last.place
			w.open = w.open[:len(w.open)-1]
			w.put(p.behind[last.old])
		}
	}
	return w.nodes, w.rows
}

// keep lays down a node of the tree's own.
func (w *weaver) keep(n int, node api.Node) {
	if node.Kind == api.KReturn {
		node.Int = w.number(api.Hook{Kind: api.EvReturn, Node: n})
	}
	w.nodes = append(w.nodes, node)
}

// put lays down a hook for each row.
func (w *weaver) put(rows []api.Hook) {
	for _, row := range rows {
		hook := api.Node{Kind: api.KHook, Int: w.number(row), Size: 1}
		// A function's name is no variable's.
		if row.Kind != api.EvCall {
			hook.Name = strings.Clone(row.Name)
		}
		w.nodes = append(w.nodes, hook)
	}
}

// number makes a row the table's next one and tells its number.
func (w *weaver) number(row api.Hook) int64 {
	row.Name = strings.Clone(row.Name)
	w.rows = append(w.rows, row)
	return int64(len(w.rows))
}
