package walk

import (
	"retrace/api"
	"retrace/types"
	"retrace/value"
)

// expression is the step that gives a node's value.
func (b *builder) expression(n int) step {
	m, node, steps := b.m, b.nodes[n], b.stepsOf(b.kids(n))
	switch node.Kind {
	case api.KInt:
		return b.constant(number(node.Int))
	case api.KBool:
		return b.constant(api.Value{Kind: api.ValBool, Int: node.Int})
	case api.KText:
		return b.constant(api.Value{Kind: api.ValText, Text: node.Text})
	case api.KName:
		slot := b.scoped.Slots[n]
		return func() { m.give(m.frame().slots[slot]) }
	case api.KIndex:
		steps = append(steps, m.element)
	case api.KCall:
		steps = append(steps, b.call(b.scoped.Calls[n]))
	case api.KUnary:
		steps = append(steps, func() { m.giveOr(value.Unary(node.Op, m.take())) })
	case api.KBinary:
		return b.binary(node.Op, steps[0], steps[1])
	case api.KNew:
		kind := types.Kind(node.Type)
		steps = append(steps, func() { m.giveOr(m.heap.Make(kind, m.take().Int)) })
	case api.KLen:
		steps = append(steps, m.length)
	case api.KStr:
		steps = append(steps, m.text)
	}
	return m.inTurn(steps...)
}

func (b *builder) constant(v api.Value) step {
	m := b.m
	return func() { m.give(v) }
}

func (b *builder) binary(op api.Op, left, right step) step {
	m := b.m
	switch op {
	case api.OpAnd:
		return b.unless(0, left, right)
	case api.OpOr:
		return b.unless(1, left, right)
	}
	return m.inTurn(left, right, func() {
		second, first := m.take(), m.take()
		m.giveOr(value.Binary(op, first, second))
	})
}

// unless gives what the left side gives, if that is the bool which decides, else what the right one gives.
func (b *builder) unless(decides int64, left, right step) step {
	m := b.m
	return m.inTurn(left, func() {
		first := m.take()
		if first.Int == decides {
			m.give(first)
			return
		}
		m.lay(right)
	})
}
