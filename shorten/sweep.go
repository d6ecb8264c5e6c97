package shorten

import "retrace/api"

// sweep takes out what no way leads to and what does nothing, and then the jumps to what stands next.
func sweep(b *body) bool {
	led := ledTo(b)
	changed := b.takeOut(func(at int) bool { return !led[at] || b.instrs[at].Op == api.InNop })
	stepsOn := stepsOnIn(b)
	return b.takeOut(func(at int) bool { return stepsOn[at] }) || changed
}

// ledTo tells, by number, whether a way leads there. All that a way leads to has its followers in the code, as that is safe.
func ledTo(b *body) []bool {
	led := make([]bool, len(b.instrs))
	var open []int
	lead := func(to int) {
		if !led[to] {
			led[to] = true
			open = append(open, to)
		}
	}
	for _, start := range b.starts {
		lead(start)
	}
	for len(open) > 0 {
		at := open[len(open)-1]
		open = open[:len(open)-1]
		in := b.instrs[at]
		if names(in) {
			lead(int(in.A))
		}
		if in.Op != api.InJump && !leaves(in) {
			lead(at + 1)
		}
	}
	return led
}

// stepsOnIn tells, by number, which jumps lead to what stands next, once the jumps of that kind that stand between are gone.
func stepsOnIn(b *body) []bool {
	stepsOn := make([]bool, len(b.instrs))
	next := int64(len(b.instrs)) // the first from here on that stays
	for at := len(b.instrs) - 1; at >= 0; at-- {
		in := b.instrs[at]
		if in.Op == api.InJump && int64(at) < in.A && in.A <= next {
			stepsOn[at] = true
		} else {
			next = int64(at)
		}
	}
	return stepsOn
}
