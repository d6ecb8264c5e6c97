package shorten

import (
	"slices"
	"strings"
	"testing"

	"retrace/alike"
	"retrace/api"
)

func in(op api.Code8, a int) api.Instr { return api.Instr{Op: op, A: int64(a)} }

func done() api.Instr { return api.Instr{Op: api.InDone} }

// greatest is one function of two slots of the sort 1, with these instructions.
func greatest(instrs ...api.Instr) api.Code {
	return api.Code{Instrs: instrs, Entrys: []api.Entry{{Name: "main", Sorts: []api.Sort{1, 1}}}}
}

// leaves asks that one of the four leaves these instructions.
func leavesJust(t *testing.T, what string, one call, c api.Code, want ...api.Instr) {
	t.Helper()
	d, errno := one.do(c)
	if errno != api.OK || !slices.Equal(d.Instrs, want) {
		t.Errorf("%s: %s of %d instructions: %d are left, %d, want %d", what, one.name, len(c.Instrs), len(d.Instrs), errno, len(want))
	}
	if errno == api.OK {
		keeps(t, one.name, c, d)
	}
}

// As many instructions as may be, and one more.
func TestMost(t *testing.T) {
	fold, thread, sweep, shorten := calls()[0], calls()[1], calls()[2], calls()[3]
	nops := append(make([]api.Instr, api.MaxInstrs-1), done())
	leavesJust(t, "P27.4", sweep, greatest(nops...), done())
	leavesJust(t, "P27.2", fold, greatest(nops...), nops...)
	for _, one := range calls() {
		if d, errno := one.do(greatest(append(nops, done())...)); errno != api.ErrArg || !isZero(d) {
			t.Errorf("P27.1: %s of too many: %d", one.name, errno)
		}
	}
	var idle, jumps, ends []api.Instr
	for at := range api.MaxInstrs - 1 {
		idle = append(idle, done())
		jumps = append(jumps, in(api.InJump, at+1))
		ends = append(ends, done())
	}
	leavesJust(t, "P27.4", sweep, greatest(append(idle, done())...), done())
	leavesJust(t, "P27.3", thread, greatest(append(jumps, done())...), append(ends, done())...)
	leavesJust(t, "P27.4", sweep, greatest(append(jumps, done())...), done())
	leavesJust(t, "P27.5", shorten, greatest(append(jumps, done())...), done())
	// A chain that comes back to its begin has no end; one that goes backward has.
	ring := append(slices.Clone(jumps), in(api.InJump, 0))
	leavesJust(t, "P27.3", thread, greatest(ring...), ring...)
	leavesJust(t, "P27.5", shorten, greatest(ring...), in(api.InJump, 0))
	backward := []api.Instr{in(api.InJump, api.MaxInstrs-1), in(api.InEmit, 1), done()}
	want := []api.Instr{in(api.InJump, 1), in(api.InEmit, 1), done()}
	for at := 3; at < api.MaxInstrs; at++ {
		backward = append(backward, in(api.InJump, at-1))
		want = append(want, done())
	}
	backward[3].A, want[3] = 1, in(api.InJump, 1)
	for at := range want[4:] {
		want[4+at] = in(api.InJump, 1)
	}
	leavesJust(t, "P27.3", thread, greatest(backward...), want...)
	leavesJust(t, "P27.5", shorten, greatest(backward...), in(api.InEmit, 1), done())
}

// P27.2: patterns within patterns, as high as a stack may be, in as many instructions as may be.
func TestManyPatterns(t *testing.T) {
	var instrs, pops []api.Instr
	for len(instrs) < api.MaxInstrs-800 {
		for range api.MaxStack {
			instrs = append(instrs, in(api.InInt, 1))
		}
		for range api.MaxStack - 1 {
			instrs = append(instrs, in(api.InBin, int(api.OpAdd)))
		}
		instrs = append(instrs, in(api.InPrint, 1))
		pops = append(pops, in(api.InInt, api.MaxStack), in(api.InPrint, 1))
	}
	leavesJust(t, "P27.2", calls()[0], greatest(append(instrs, done())...), append(pops, done())...)
	signs := []api.Instr{in(api.InInt, 7)}
	for range api.MaxInstrs - 3 {
		signs = append(signs, in(api.InUn, int(api.OpNeg)))
	}
	leavesJust(t, "P27.2", calls()[0], greatest(append(signs, in(api.InPrint, 1), done())...), in(api.InInt, -7), in(api.InPrint, 1), done())
	instrs = nil
	for range api.MaxInstrs / 800 {
		for range 399 {
			instrs = append(instrs, in(api.InLoad, 1))
		}
		for range 399 {
			instrs = append(instrs, api.Instr{Op: api.InPop})
		}
	}
	leavesJust(t, "P27.2", calls()[0], greatest(append(instrs, done())...), done())
}

// P27.2: each pattern stands only when the one behind it, or ahead of it, is gone.
func TestOneAfterTheOther(t *testing.T) {
	links := 2000
	if testing.Short() {
		links = 300
	}
	behind, ahead := []api.Instr{done()}, []api.Instr{done()}
	for range links {
		at := len(behind)
		behind = append(behind, in(api.InBool, 1), in(api.InFalse, at-1))
		ahead = append(ahead, in(api.InBool, 1), in(api.InFalse, at+3))
	}
	behind[2].A, ahead[len(ahead)-1].A = 0, 0
	leavesJust(t, "P27.2", calls()[0], greatest(behind...), done())
	leavesJust(t, "P27.2", calls()[0], greatest(ahead...), done())
	// With the last one named by a jump that stays none is one.
	behind, ahead = append(behind, in(api.InJump, len(behind)-1)), append(ahead, in(api.InJump, 2))
	leavesJust(t, "P27.2", calls()[0], greatest(behind...), behind...)
	leavesJust(t, "P27.2", calls()[0], greatest(ahead...), ahead...)
}

// P27.5: as many rounds as there are links: what one leaves is known only when the one ahead is gone.
func TestManyRounds(t *testing.T) {
	links := 3000
	if testing.Short() {
		links = 500
	}
	instrs := []api.Instr{in(api.InBool, 1)}
	for range links {
		at := len(instrs)
		instrs = append(instrs, in(api.InFalse, at+3), in(api.InBool, 1), in(api.InJump, at+4), in(api.InBool, 0))
	}
	at := len(instrs)
	yes := append(instrs, in(api.InFalse, at+2), in(api.InEmit, 1), done())
	leavesJust(t, "P27.5", calls()[3], greatest(yes...), in(api.InEmit, 1), done())
	yes[0].A = 0
	leavesJust(t, "P27.5", calls()[3], greatest(yes...), done())
}

// As many functions, slots, parameters and texts as may be.
func TestMostParts(t *testing.T) {
	c := api.Code{Main: api.MaxFuncs - 1}
	for n := range api.MaxTexts {
		c.Texts = append(c.Texts, strings.Repeat("t", n%(api.MaxLiteral+1)))
	}
	want := c
	for f := range api.MaxFuncs {
		e := api.Entry{Name: strings.Repeat("f", api.MaxName), Start: len(c.Instrs), Params: api.MaxParams, Sorts: slices.Repeat([]api.Sort{19}, api.MaxSlots), Result: 19}
		ends := []api.Instr{in(api.InLoad, api.MaxSlots-1), {Op: api.InRet}}
		if f == c.Main {
			e.Params, e.Result, ends = 0, 0, []api.Instr{done()}
		}
		c.Entrys = append(c.Entrys, e)
		c.Instrs = append(c.Instrs, in(api.InText, api.MaxTexts-1), api.Instr{Op: api.InPop}, in(api.InLoad, api.MaxSlots-1), in(api.InStore, api.MaxSlots-1), in(api.InEmit, api.MaxTree))
		c.Instrs = append(c.Instrs, ends...)
		e.Start = len(want.Instrs)
		want.Entrys = append(want.Entrys, e)
		want.Instrs = append(append(want.Instrs, in(api.InEmit, api.MaxTree)), ends...)
	}
	if d, errno := Shorten(c); errno != api.OK || !alike.Code(d, want) {
		t.Errorf("P27.5: %d, %d instructions", errno, len(d.Instrs))
	}
}
