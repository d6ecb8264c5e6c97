package shorten

import "retrace/api"

// noEnd stands for the end of a chain that has none.
const noEnd = -1

// thread lets every jump go to the end of its chain, or be what stands there.
func thread(b *body) bool {
	ends := endsIn(b)
	changed := false
	for at, in := range b.instrs {
		if !names(in) || !b.has(in.A) || ends[in.A] == noEnd {
			continue
		}
		// No chain ends where something was changed already: not at a jump of which the end is known.
		end := b.instrs[ends[in.A]]
		if in.Op == api.InFalse || !leaves(end) {
			end = api.Instr{Op: in.Op, A: int64(ends[in.A])}
		}
		b.instrs[at] = end
		changed = changed || end != in
	}
	return changed
}

// leaves tells whether an instruction ends its function.
func leaves(in api.Instr) bool {
	return in.Op == api.InDone || in.Op == api.InRet
}

// chains is what is known of the chains in a body, by the number at which they begin.
type chains struct {
	*body
	known []bool
	ends  []int
}

// endsIn tells, by number, the end of the chain that begins there.
func endsIn(b *body) []int {
	c := chains{b, make([]bool, len(b.instrs)), make([]int, len(b.instrs))}
	for begin := range b.instrs {
		c.follow(begin)
	}
	return c.ends
}

// follow learns the end of a chain, and with it that of all that the chain comes to.
func (c *chains) follow(begin int) {
	var passed []int
	at := begin
	for ; !c.known[at] && c.goesOn(at); at = int(c.instrs[at].A) {
		// Without an end until one is found: so a chain that comes to itself has none.
		c.learn(at, noEnd)
		passed = append(passed, at)
	}
	if !c.known[at] {
		c.learn(at, at)
	}
	for _, link := range passed {
		c.learn(link, c.ends[at])
	}
}

func (c *chains) learn(begin, end int) {
	c.known[begin], c.ends[begin] = true, end
}

// goesOn tells whether a chain that comes to an instruction goes on behind it.
func (b *body) goesOn(at int) bool {
	in := b.instrs[at]
	return in.Op == api.InJump && b.has(in.A)
}
