package shorten

import (
	"slices"
	"testing"

	"retrace/alike"
	"retrace/api"
	"retrace/code"
	"retrace/value"
	"retrace/verify"
)

// What follows is the chapter a second time, word by word: one thing is done at a time, and all is looked at anew behind it.

func isJump(in api.Instr) bool { return in.Op == api.InJump || in.Op == api.InFalse }

// copied is a code that can be changed without the first one's knowing.
func copied(c api.Code) api.Code {
	c.Instrs, c.Entrys = slices.Clone(c.Instrs), slices.Clone(c.Entrys)
	return c
}

// taken takes out some instructions.
func taken(c api.Code, out ...int) api.Code {
	less := func(n int) int {
		below := 0
		for _, at := range out {
			if at < n {
				below++
			}
		}
		return n - below
	}
	d := copied(c)
	d.Instrs = nil
	for at, in := range c.Instrs {
		if isJump(in) {
			in.A = int64(less(int(in.A)))
		}
		if !slices.Contains(out, at) {
			d.Instrs = append(d.Instrs, in)
		}
	}
	for f := range d.Entrys {
		d.Entrys[f].Start = less(d.Entrys[f].Start)
	}
	return d
}

// pieceOf tells the function in whose piece an instruction is.
func pieceOf(c api.Code, at int) int {
	f := 0
	for n, e := range c.Entrys {
		if e.Start <= at {
			f = n
		}
	}
	return f
}

// valueOf is a constant's value; none of what is no constant.
func valueOf(in api.Instr) api.Value {
	switch in.Op {
	case api.InInt:
		return api.Value{Kind: api.ValInt, Int: in.A}
	case api.InBool:
		return api.Value{Kind: api.ValBool, Int: in.A}
	}
	return api.Value{}
}

func constantOf(v api.Value, trap api.Trap) ([]api.Instr, bool) {
	if trap != api.NoTrap {
		return nil, false
	}
	return []api.Instr{{Op: api.Code8(v.Kind), A: v.Int}}, true // ints and bools have the numbers of their instructions
}

// row tells how many instructions from one on are as a row says, and what they become; 0, if none says so.
func row(c api.Code, at int) (int, []api.Instr) {
	rest := c.Instrs[at:]
	if len(rest) < 2 {
		return 0, nil
	}
	first, second := rest[0], rest[1]
	push := first.Op == api.InInt || first.Op == api.InBool || first.Op == api.InText || first.Op == api.InLoad
	switch {
	case second.Op == api.InUn && valueOf(first) != api.Value{}:
		if become, is := constantOf(value.Unary(api.Op(second.A), valueOf(first))); is {
			return 2, become
		}
	case second.Op == api.InFalse && first == api.Instr{Op: api.InBool, A: 1}:
		return 2, nil
	case second.Op == api.InFalse && first == api.Instr{Op: api.InBool, A: 0}:
		return 2, []api.Instr{{Op: api.InJump, A: second.A}}
	case second.Op == api.InPop && push:
		return 2, nil
	case second.Op == api.InStore && first == api.Instr{Op: api.InLoad, A: second.A}:
		return 2, nil
	}
	if len(rest) > 2 && rest[2].Op == api.InBin && valueOf(first) != (api.Value{}) && valueOf(second) != (api.Value{}) {
		if become, is := constantOf(value.Binary(api.Op(rest[2].A), valueOf(first), valueOf(second))); is {
			return 3, become
		}
	}
	return 0, nil
}

// stands tells how many instructions from one on are a pattern that stands, and what they become.
func stands(c api.Code, at int) (int, []api.Instr) {
	count, become := row(c, at)
	if count == 0 || pieceOf(c, at) != pieceOf(c, at+count-1) {
		return 0, nil
	}
	for _, in := range c.Instrs {
		if isJump(in) && int64(at) < in.A && in.A < int64(at+count) {
			return 0, nil
		}
	}
	return count, become
}

func wantFold(c api.Code) api.Code {
	for {
		at, count, become := 0, 0, []api.Instr(nil)
		for ; at < len(c.Instrs) && count == 0; at++ {
			count, become = stands(c, at)
		}
		if count == 0 {
			return c
		}
		at--
		c = copied(c)
		copy(c.Instrs[at:], become)
		var out []int
		for n := at + len(become); n < at+count; n++ {
			out = append(out, n)
		}
		c = taken(c, out...)
	}
}

// endOf is the end of the chain that begins at a number, -1 if it has none.
func endOf(c api.Code, at int64) int64 {
	been := map[int64]bool{}
	for at < int64(len(c.Instrs)) && !been[at] {
		in := c.Instrs[at]
		if in.Op != api.InJump || in.A >= int64(len(c.Instrs)) {
			return at
		}
		been[at] = true
		at = in.A
	}
	return -1
}

func wantThread(c api.Code) api.Code {
	d := copied(c)
	for at, in := range c.Instrs {
		if !isJump(in) || endOf(c, in.A) < 0 {
			continue
		}
		end := c.Instrs[endOf(c, in.A)]
		if in.Op == api.InJump && (end.Op == api.InDone || end.Op == api.InRet) {
			d.Instrs[at] = api.Instr{Op: end.Op}
		} else {
			d.Instrs[at].A = endOf(c, in.A)
		}
	}
	return d
}

func wantSweep(c api.Code) api.Code {
	stacks, _ := verify.Stacks(c)
	var out []int
	for at, in := range c.Instrs {
		if stacks[at] == nil || in.Op == api.InNop {
			out = append(out, at)
		}
	}
	c = taken(c, out...)
	for {
		at := 0
		for at < len(c.Instrs) && c.Instrs[at] != (api.Instr{Op: api.InJump, A: int64(at + 1)}) {
			at++
		}
		if at == len(c.Instrs) {
			return c
		}
		c = taken(c, at)
	}
}

func wantShorten(c api.Code) api.Code {
	for {
		d := wantSweep(wantThread(wantFold(c)))
		if alike.Code(c, d) {
			return c
		}
		c = d
	}
}

// holds asks that the four make of a code what the chapter says, and tells what Shorten made.
func holds(t testing.TB, c api.Code) (api.Code, bool) {
	t.Helper()
	errno, _ := verify.Check(c)
	wants := []func(api.Code) api.Code{wantFold, wantThread, wantSweep, wantShorten}
	var short api.Code
	for n, one := range calls() {
		before := copied(c)
		d, got := one.do(c)
		if !alike.Code(before, c) {
			t.Fatalf("P27.8: %s changed %s", one.name, told(before))
		}
		if errno != api.OK {
			if got != api.ErrArg || !isZero(d) {
				t.Fatalf("P27.1: %s of %s: %s, %d", one.name, told(c), told(d), got)
			}
			continue
		}
		if want := wants[n](c); got != api.OK || !alike.Code(d, want) {
			t.Fatalf("P27.%d: %s of %s: %s, %d, want %s", n+2, one.name, told(c), told(d), got, told(want))
		}
		keeps(t, one.name, c, d)
		short = d
	}
	if errno == api.OK {
		isShort(t, short)
	}
	return short, errno == api.OK
}

// keeps asks for what comes of it, whatever was made: it is safe, no longer, and only the Starts may be others.
func keeps(t testing.TB, name string, c, d api.Code) {
	t.Helper()
	if errno, at := verify.Check(d); errno != api.OK {
		t.Fatalf("P27.6: %s of %s: %s: %d at %d", name, told(c), told(d), errno, at)
	}
	if len(d.Instrs) > len(c.Instrs) {
		t.Fatalf("P27.7: %s of %s: %s", name, told(c), told(d))
	}
	d = copied(d)
	d.Instrs = c.Instrs
	for f := range d.Entrys {
		d.Entrys[f].Start = c.Entrys[f].Start
	}
	if !alike.Code(c, d) {
		t.Fatalf("P27.1: %s of %s: texts, Main or functions are others", name, told(c))
	}
}

// isShort asks that nothing is left to be done.
func isShort(t testing.TB, d api.Code) {
	t.Helper()
	for _, one := range calls() {
		if again, errno := one.do(d); errno != api.OK || !alike.Code(again, d) {
			t.Fatalf("P27.7: %s of what is short, %s: %s, %d", one.name, told(d), told(again), errno)
		}
	}
	stacks, errno := verify.Stacks(d)
	if errno != api.OK || code.Valid(d) != api.OK {
		t.Fatalf("P27.6: %s: %d", told(d), errno)
	}
	for at, in := range d.Instrs {
		count, _ := stands(d, at)
		switch {
		case count > 0, in.Op == api.InNop, stacks[at] == nil:
			t.Fatalf("P27.7: %s: at %d", told(d), at)
		case in.Op == api.InJump && in.A == int64(at+1):
			t.Fatalf("P27.7: %s: a jump to the next at %d", told(d), at)
		case isJump(in) && d.Instrs[in.A].Op == api.InJump && endOf(d, in.A) >= 0:
			t.Fatalf("P27.7: %s: a jump to a jump at %d", told(d), at)
		}
	}
}
