package tree

import (
	"math"

	"retrace/api"
	"retrace/lex"
)

// need says what a field is in a kind: not named, so empty; empty or filled; filled.
type need int

const (
	never need = iota
	perhaps
	always
)

// shape says which fields a kind of node names and how many kids it has. Bounds that are left at 0 hold a field that the kind does not name at zero.
type shape struct {
	label, name, typing need
	leastInt, mostInt   int64
	firstOp, lastOp     api.Op
	longest             int
	fewest, most        int
}

func shapeOf(kind api.Kind) (s shape, known bool) {
	switch kind {
	case api.KProgram, api.KBlock:
		return shape{most: math.MaxInt}, true
	case api.KFunc:
		return shape{name: always, typing: perhaps, fewest: 1, most: api.MaxParams + 1}, true
	case api.KParam:
		return shape{name: always, typing: always}, true
	case api.KVar:
		return shape{name: always, typing: always, fewest: 1, most: 1}, true
	case api.KAssign, api.KIndex:
		return shape{fewest: 2, most: 2}, true
	case api.KIf:
		return shape{fewest: 2, most: 3}, true
	case api.KWhile:
		return shape{label: perhaps, fewest: 2, most: 2}, true
	case api.KFor:
		return shape{label: perhaps, name: always, fewest: 3, most: 3}, true
	case api.KBreak, api.KContinue:
		return shape{label: perhaps}, true
	case api.KReturn:
		return shape{mostInt: api.MaxTree, most: 1}, true
	case api.KPrint:
		return shape{fewest: 1, most: api.MaxPrints}, true
	case api.KRead, api.KDo, api.KLen, api.KStr:
		return shape{fewest: 1, most: 1}, true
	case api.KHook:
		return shape{leastInt: 1, mostInt: api.MaxTree, name: perhaps}, true
	case api.KInt:
		return shape{mostInt: math.MaxInt64}, true
	case api.KBool:
		return shape{mostInt: 1}, true
	case api.KText:
		return shape{longest: api.MaxLiteral}, true
	case api.KName:
		return shape{name: always}, true
	case api.KCall:
		return shape{name: always, most: math.MaxInt}, true
	case api.KUnary:
		return shape{firstOp: api.OpNeg, lastOp: api.OpNot, fewest: 1, most: 1}, true
	case api.KBinary:
		return shape{firstOp: api.OpAdd, lastOp: api.OpOr, fewest: 2, most: 2}, true
	case api.KNew:
		return shape{typing: always, fewest: 1, most: 1}, true
	}
	return shape{}, false
}

func (s shape) fieldsFit(node api.Node) bool {
	return node.At >= 0 &&
		s.label.fits(node.Label, isName) &&
		s.name.fits(node.Name, isName) &&
		s.typing.fits(node.Type, isType) &&
		s.leastInt <= node.Int && node.Int <= s.mostInt &&
		s.firstOp <= node.Op && node.Op <= s.lastOp &&
		len(node.Text) <= s.longest
}

func (s shape) kidsFit(nodes []api.Node, n int) bool {
	end := n + nodes[n].Size
	count := 0
	for kid := range kidsOf(nodes, n) {
		size := nodes[kid].Size
		if size < 1 || size > end-kid || !mayStand(nodes, n, kid, count) {
			return false
		}
		count++
	}
	return s.fewest <= count && count <= s.most
}

func (w need) fits(text string, isGood func(string) bool) bool {
	if text == "" {
		return w != always
	}
	return w != never && isGood(text)
}

// mayStand tells whether a node is of a kind that may be the kid of n with that many kids ahead of it.
func mayStand(nodes []api.Node, n, kid, ahead int) bool {
	kind := nodes[kid].Kind
	switch nodes[n].Kind {
	case api.KProgram:
		return kind == api.KFunc
	case api.KFunc:
		if kid+nodes[kid].Size < n+nodes[n].Size {
			return kind == api.KParam
		}
		return kind == api.KBlock
	case api.KBlock:
		return isStatement(kind)
	case api.KAssign:
		if ahead == 0 {
			return isPlace(nodes, kid)
		}
	case api.KRead:
		return isPlace(nodes, kid)
	case api.KDo:
		return kind == api.KCall
	case api.KIf:
		if ahead > 0 {
			return kind == api.KBlock || ahead == 2 && kind == api.KIf
		}
	case api.KWhile:
		if ahead == 1 {
			return kind == api.KBlock
		}
	case api.KFor:
		if ahead == 2 {
			return kind == api.KBlock
		}
	}
	return isExpression(kind)
}

// isPlace follows first kids by the list's order alone: that the nodes on the way have kids is asked when their own turn comes.
func isPlace(nodes []api.Node, n int) bool {
	for n < len(nodes) && nodes[n].Kind == api.KIndex {
		n++
	}
	return n < len(nodes) && nodes[n].Kind == api.KName
}

func isRoot(kind api.Kind) bool {
	return kind == api.KProgram || isExpression(kind)
}

func isStatement(kind api.Kind) bool {
	return kind == api.KBlock || api.KVar <= kind && kind <= api.KHook
}

func isExpression(kind api.Kind) bool {
	return api.KInt <= kind && kind <= api.KStr
}

func isName(text string) bool {
	if len(text) > api.MaxName || !isLetter(text[0]) || lex.Keyword(text) {
		return false
	}
	for i := range len(text) {
		if b := text[i]; !isLetter(b) && (b < '0' || b > '9') && b != '_' {
			return false
		}
	}
	return true
}

func isLetter(b byte) bool {
	return 'a' <= b && b <= 'z' || 'A' <= b && b <= 'Z'
}

func isType(text string) bool {
	for range api.MaxArray {
		if len(text) < 2 || text[0] != '[' || text[len(text)-1] != ']' {
			break
		}
		text = text[1 : len(text)-1]
	}
	return text == "int" || text == "bool" || text == "text"
}
