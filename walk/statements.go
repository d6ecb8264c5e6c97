package walk

import (
	"slices"

	"retrace/api"
)

// statement is the step that does a statement, but for its EvStmt.
func (b *builder) statement(n int) step {
	m, kids := b.m, b.kids(n)
	switch node := b.nodes[n]; node.Kind {
	case api.KBlock:
		return b.statements(kids)
	case api.KVar:
		return m.inTurn(b.steps[kids[0]], b.keep(n), b.show(api.EvSet, n, n))
	case api.KAssign:
		return b.store(n, kids[0], b.steps[kids[1]])
	case api.KIf:
		return b.choice(kids)
	case api.KWhile:
		return b.while(n, b.steps[kids[0]], b.way(kids[1]))
	case api.KFor:
		return b.count(n, kids)
	case api.KBreak:
		loop := b.scoped.Targets[n]
		return func() { m.breakOff(loop) }
	case api.KContinue:
		loop := b.scoped.Targets[n]
		return func() { m.continueWith(loop) }
	case api.KReturn:
		return b.comeBack(n, kids)
	case api.KPrint:
		return b.print(kids)
	case api.KRead:
		return b.store(n, kids[0], m.next)
	case api.KDo:
		return m.inTurn(b.steps[kids[0]], m.drop)
	}
	return m.inTurn()
}

// statements does statements one behind the other. Each lays the next ones on the list only when its turn has come, so that leaving early costs nothing.
func (b *builder) statements(kids []int) step {
	rest := b.m.inTurn()
	for _, kid := range slices.Backward(kids) {
		switch b.nodes[kid].Kind {
		case api.KHook:
		case api.KBlock:
			rest = b.m.inTurn(b.way(kid), rest)
		default:
			rest = b.m.inTurn(b.event(api.EvStmt, kid), b.steps[kid], rest)
		}
	}
	return rest
}

// way is the step that does a block that is no body, or an if behind an else.
func (b *builder) way(n int) step {
	if b.nodes[n].Kind == api.KIf {
		return b.steps[n]
	}
	return b.m.inTurn(b.event(api.EvEnter, n), b.steps[n], b.event(api.EvExit, n))
}

func (b *builder) choice(kids []int) step {
	m, one, other := b.m, b.way(kids[1]), b.m.inTurn()
	if len(kids) > 2 {
		other = b.way(kids[2])
	}
	return m.inTurn(b.steps[kids[0]], func() {
		if m.take().Int == 1 {
			m.lay(one)
			return
		}
		m.lay(other)
	})
}

func (b *builder) while(n int, condition, block step) step {
	m := b.m
	var turn step
	turn = m.inTurn(condition, func() {
		if m.take().Int == 1 {
			m.lay(block, turn)
		}
	})
	return func() { m.begin(n, turn) }
}

// count is the step that does a for.
func (b *builder) count(n int, kids []int) step {
	m, block := b.m, kids[2]
	enter, exit := b.event(api.EvEnter, block), b.event(api.EvExit, block)
	keep, show, statements := b.keep(n), b.show(api.EvSet, n, n), b.steps[block]
	return m.inTurn(b.steps[kids[0]], b.steps[kids[1]], func() {
		last, next := m.take().Int, m.take().Int
		over := next > last
		var turn step
		turn = func() {
			if over {
				return
			}
			m.give(number(next))
			m.lay(enter, keep, show, statements, exit, turn)
			// Behind the greatest int there is no next one that could be above the last.
			over = next == last
			next++
		}
		m.begin(n, turn)
	})
}

func (b *builder) comeBack(n int, kids []int) step {
	m, result := b.m, b.constant(api.Value{})
	if len(kids) > 0 {
		result = b.steps[kids[0]]
	}
	return m.inTurn(result, func() {
		v := m.take()
		m.leave(v)
		m.tell(api.EvReturn, n, "", v)
	})
}

func (b *builder) print(kids []int) step {
	m, count := b.m, len(kids)
	return m.inTurn(append(b.stepsOf(kids), func() { m.print(count) })...)
}

// store is the step that puts what another one gives into a place, for the statement n.
func (b *builder) store(n, place int, what step) step {
	if b.nodes[place].Kind == api.KName {
		return b.m.inTurn(what, b.keep(place), b.show(api.EvSet, n, place))
	}
	root := place
	for b.nodes[root].Kind == api.KIndex {
		root++
	}
	kids := b.kids(place)
	return b.m.inTurn(b.steps[kids[0]], b.steps[kids[1]], what, b.m.put, b.show(api.EvTouch, n, root))
}
