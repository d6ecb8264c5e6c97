package parse

import (
	"strings"

	"retrace/api"
)

// around is a subtree that a node stands in: its root's kind and depth, and the number of the node behind it.
type around struct {
	kind  api.Kind
	depth int
	end   int
}

// refuseExcess gives up at the first node, in the order of the tree, that is more than a limit allows.
func refuseExcess(made []api.Node, order []int) {
	open := []around{{end: len(made)}}
	for number, n := range order {
		node := made[n]
		for open[len(open)-1].end == number {
			open = open[:len(open)-1]
		}
		depth := depthOf(node.Kind, open[len(open)-1])
		switch {
		case number >= api.MaxTree || hasTooMany(made, n):
			refuse(api.ErrSize, node.At)
		case strings.Count(node.Type, "[") > api.MaxArray:
			refuse(api.ErrDeep, node.At)
		case depth > api.MaxDeep && (isExpression(node.Kind) || node.Kind == api.KBlock):
			refuse(api.ErrDeep, node.At)
		}
		open = append(open, around{kind: node.Kind, depth: depth, end: number + node.Size})
	}
}

// depthOf counts expressions up to the statement that they stand in; blocks, and ifs behind an else, up to the root.
func depthOf(kind api.Kind, parent around) int {
	switch {
	case isExpression(kind) && !isExpression(parent.kind):
		return 1
	case isExpression(kind), kind == api.KBlock, kind == api.KIf && parent.kind == api.KIf:
		return parent.depth + 1
	}
	return parent.depth
}

// hasTooMany tells whether a node has more parameters or values than it may.
func hasTooMany(made []api.Node, n int) bool {
	most := 0
	switch made[n].Kind {
	case api.KFunc:
		most = api.MaxParams + 1 // and its body
	case api.KPrint:
		most = api.MaxPrints
	default:
		return false
	}
	kids := 0
	for kid := n - 1; kid > n-made[n].Size; kid -= made[kid].Size {
		kids++
	}
	return kids > most
}

func isExpression(kind api.Kind) bool {
	return kind >= api.KInt
}
