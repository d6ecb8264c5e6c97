package types

import (
	"iter"

	"retrace/api"
)

// walk goes through the nodes in the order in which they are judged. Those whose turn is still to come wait in a list, so that a deep tree needs no deep calls.
func walk(nodes []api.Node) iter.Seq[int] {
	return func(yield func(int) bool) {
		var waiting []int // innermost last
		for next := range len(nodes) + 1 {
			for last := len(waiting) - 1; last >= 0 && turn(nodes, waiting[last]) == next; last-- {
				if !yield(waiting[last]) {
					return
				}
				waiting = waiting[:last]
			}
			waiting = append(waiting, next)
		}
	}
}

// turn is the node ahead of which a node is judged: the one behind its kids that are expressions, which come first.
func turn(nodes []api.Node, n int) int {
	behind := n + 1
	switch nodes[n].Kind {
	case api.KProgram, api.KFunc, api.KBlock:
		return behind
	case api.KIf, api.KWhile:
		return behind + nodes[behind].Size
	case api.KFor:
		behind += nodes[behind].Size
		return behind + nodes[behind].Size
	}
	return n + nodes[n].Size
}
