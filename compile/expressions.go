package compile

import (
	"retrace/api"
	"retrace/types"
)

// rowOf is the table's row of a node that is no function.
func (w *writer) rowOf(n int) row {
	if w.nodes[n].Kind >= api.KInt {
		return w.expression(n)
	}
	return w.statement(n)
}

func (w *writer) expression(n int) row {
	node, parts := w.nodes[n], w.parts(w.kids(n))
	switch node.Kind {
	case api.KInt:
		return row{w.write(api.Instr{Op: api.InInt, A: node.Int}, 1)}
	case api.KBool:
		return row{w.write(api.Instr{Op: api.InBool, A: node.Int}, 1)}
	case api.KText:
		return row{w.put(api.InText, w.text(node.Text), 1)}
	case api.KName:
		return row{w.put(api.InLoad, w.scoped.Slots[n], 1)}
	case api.KUnary:
		return append(parts, w.put(api.InUn, int(node.Op), 0))
	case api.KBinary:
		return w.binary(node.Op, parts[0], parts[1])
	case api.KIndex:
		return append(parts, w.put(api.InGet, 0, -1))
	case api.KCall:
		return w.call(w.scoped.Calls[n], parts)
	case api.KNew:
		return append(parts, w.put(api.InNew, int(types.Sort(node.Type)), 0))
	case api.KLen:
		return append(parts, w.put(api.InLen, 0, 0))
	}
	return append(parts, w.put(api.InStr, 0, 0))
}

func (w *writer) binary(op api.Op, x, y step) row {
	switch op {
	case api.OpAnd:
		no, end := w.mark(), w.mark()
		return row{x, w.jump(api.InFalse, no, -1), y, w.jump(api.InJump, end, -1), w.here(no), w.put(api.InBool, 0, 1), w.here(end)}
	case api.OpOr:
		right, end := w.mark(), w.mark()
		return row{x, w.jump(api.InFalse, right, -1), w.put(api.InBool, 1, 1), w.jump(api.InJump, end, -1), w.here(right), y, w.here(end)}
	}
	return row{x, y, w.put(api.InBin, int(op), -1)}
}

func (w *writer) call(number int, arguments row) row {
	change := -len(arguments)
	if w.scoped.Funcs[number].Result != "" {
		change++
	}
	return append(arguments, w.put(api.InCall, number, change))
}
