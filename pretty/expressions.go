package pretty

import (
	"slices"
	"strconv"

	"retrace/api"
	"retrace/lex"
)

// operator is how an operator is written, and the level of its node.
type operator struct {
	sign  string
	level int
}

var operators = [...]operator{
	api.OpOr:  {"||", 1},
	api.OpAnd: {"&&", 2},
	api.OpEq:  {"==", compared},
	api.OpNe:  {"!=", compared},
	api.OpLt:  {"<", compared},
	api.OpLe:  {"<=", compared},
	api.OpGt:  {">", compared},
	api.OpGe:  {">=", compared},
	api.OpAdd: {"+", 4},
	api.OpSub: {"-", 4},
	api.OpMul: {"*", 5},
	api.OpDiv: {"/", 5},
	api.OpMod: {"%", 5},
	api.OpNeg: {"-", 6},
	api.OpNot: {"!", 6},
}

const (
	anything = 1
	compared = 3
	indexed  = 7
	single   = 8
)

// piece is a part of an expression that is still to be written: a text as it is, or, where that is empty, a node in a place that asks for a level.
type piece struct {
	text string
	node int
	asks int
}

func plain(text string) piece {
	return piece{text: text}
}

func (w *writer) expression(n int) {
	w.write([]piece{{node: n, asks: anything}})
}

// expressions writes those from one node up to another, which is none of them.
func (w *writer) expressions(first, end int) {
	w.write(w.appendList(nil, first, end))
}

// write keeps what is still to be written in a list, the next piece last: parts may be nested deeper than calls may be.
func (w *writer) write(rest []piece) {
	slices.Reverse(rest)
	for len(rest) > 0 {
		next := rest[len(rest)-1]
		rest = rest[:len(rest)-1]
		if next.text != "" {
			w.put(next.text)
			continue
		}
		if w.level(next.node) < next.asks {
			w.put("(")
			rest = append(rest, plain(")"))
		}
		begin := len(rest)
		rest = w.appendPieces(rest, next.node)
		slices.Reverse(rest[begin:])
	}
}

func (w *writer) level(n int) int {
	switch node := w.nodes[n]; node.Kind {
	case api.KBinary, api.KUnary:
		return operators[node.Op].level
	case api.KIndex:
		return indexed
	}
	return single
}

// appendPieces appends what an expression is written of, in the order in which it stands.
func (w *writer) appendPieces(rest []piece, n int) []piece {
	node := w.nodes[n]
	first := n + 1
	switch node.Kind {
	case api.KInt:
		return append(rest, plain(strconv.FormatInt(node.Int, 10)))
	case api.KBool:
		return append(rest, plain(strconv.FormatBool(node.Int == 1)))
	case api.KText:
		return append(rest, plain(lex.Quote(node.Text)))
	case api.KName:
		return append(rest, plain(node.Name))
	case api.KIndex:
		return append(rest, piece{node: first, asks: indexed}, plain("["), piece{node: w.behind(first), asks: anything}, plain("]"))
	case api.KCall:
		rest = append(rest, plain(node.Name+"("))
		return append(w.appendList(rest, first, w.behind(n)), plain(")"))
	case api.KUnary:
		o := operators[node.Op]
		return append(rest, plain(o.sign), piece{node: first, asks: o.level})
	case api.KBinary:
		o := operators[node.Op]
		return append(rest, piece{node: first, asks: o.leftAsks()}, plain(" "+o.sign+" "), piece{node: w.behind(first), asks: o.level + 1})
	case api.KNew:
		return append(rest, plain("new "+node.Type+"["), piece{node: first, asks: anything}, plain("]"))
	case api.KLen:
		return append(rest, plain("len("), piece{node: first, asks: anything}, plain(")"))
	}
	return append(rest, plain("str("), piece{node: first, asks: anything}, plain(")"))
}

// leftAsks is what the left side of a binary asks for: a chain goes on to the left, but no comparison is the side of another one.
func (o operator) leftAsks() int {
	if o.level == compared {
		return o.level + 1
	}
	return o.level
}

func (w *writer) appendList(rest []piece, first, end int) []piece {
	for kid := first; kid < end; kid = w.behind(kid) {
		if kid > first {
			rest = append(rest, plain(", "))
		}
		rest = append(rest, piece{node: kid, asks: anything})
	}
	return rest
}
