package walk

import (
	"slices"

	"retrace/api"
)

// builder makes the steps of a program's nodes for one machine.
type builder struct {
	m      *Machine
	nodes  []api.Node
	scoped api.Scoped
	steps  []step // by node: of an expression the step that gives its value; of a function its body; of a block its statements alone; of another statement all that it does but its EvStmt
}

// program is the step that does all of a program.
func program(m *Machine, p api.Program) step {
	b := builder{m: m, nodes: p.Tree.Nodes, scoped: p.Scoped, steps: make([]step, len(p.Tree.Nodes))}
	// From the last node on a node's kids have their steps ahead of it, so that a deep tree needs no deep calls.
	for n := range slices.Backward(b.nodes) {
		b.steps[n] = b.build(n)
	}
	main := slices.IndexFunc(p.Scoped.Funcs, func(f api.Func) bool { return f.Name == "main" })
	return m.inTurn(b.call(main), m.drop)
}

// build makes the step of a node; at a hook, and at the root, nothing is done.
func (b *builder) build(n int) step {
	switch kind := b.nodes[n].Kind; {
	case kind == api.KFunc:
		return b.body(n)
	case kind == api.KParam:
		return b.show(api.EvSet, n, n)
	case kind >= api.KInt:
		return b.expression(n)
	}
	return b.statement(n)
}

// call is the step that calls the function of that number. Only when it is done all functions have their own steps.
func (b *builder) call(number int) step {
	m, f, steps := b.m, b.scoped.Funcs[number], b.steps
	return func() { m.call(f, steps[f.Node]) }
}

// body tells the parameters, does the statements, and ends the call where no return has.
func (b *builder) body(n int) step {
	m := b.m
	return m.inTurn(append(b.stepsOf(b.kids(n)), func() {
		m.leave(api.Value{})
		m.tell(api.EvLeave, n, "", api.Value{})
	})...)
}

// kids are the numbers of a node's kids.
func (b *builder) kids(n int) []int {
	var kids []int
	for kid := n + 1; kid < n+b.nodes[n].Size; kid += b.nodes[kid].Size {
		kids = append(kids, kid)
	}
	return kids
}

func (b *builder) stepsOf(nodes []int) []step {
	var steps []step
	for _, n := range nodes {
		steps = append(steps, b.steps[n])
	}
	return steps
}

// event is the step that tells an event of which no more is said than its node.
func (b *builder) event(kind api.EventKind, n int) step {
	m := b.m
	return func() { m.tell(kind, n, "", api.Value{}) }
}

// show is the step that tells an event with a variable, which is the one that the node of names or declares.
func (b *builder) show(kind api.EventKind, n, of int) step {
	m, name, slot := b.m, b.nodes[of].Name, b.scoped.Slots[of]
	return func() { m.tell(kind, n, name, m.frame().slots[slot]) }
}

// keep is the step that makes the newest value that of a variable.
func (b *builder) keep(of int) step {
	m, slot := b.m, b.scoped.Slots[of]
	return func() { m.frame().slots[slot] = m.take() }
}
