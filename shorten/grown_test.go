package shorten

import (
	"slices"
	"testing"

	"retrace/api"
	"retrace/vm"
)

// run is what is seen of a run, up to some instructions: the yields, and behind how many instructions each came.
type run struct {
	yields []api.Yield
	behind []int
	result api.Run
	steps  int
}

func ran(t testing.TB, c api.Code, input []int64, l api.Limits, steps int) run {
	t.Helper()
	m, errno := vm.New(c, input, l)
	if errno != api.OK {
		t.Fatalf("%s: %d", told(c), errno)
	}
	var r run
	for range steps {
		if y, yields := m.Step(); yields {
			r.yields, r.behind = append(r.yields, y), append(r.behind, m.Steps())
		}
		if m.Result().Outcome.Phase != api.Running {
			break
		}
	}
	r.result, r.steps = m.Result(), m.Steps()
	return r
}

// sameEnd tells whether two runs have ended alike.
func sameEnd(a, b api.Run) bool {
	return a.Outcome == b.Outcome && a.Output == b.Output && a.Input == b.Input &&
		slices.EqualFunc(a.Arrays, b.Arrays, func(a, b []api.Value) bool { return slices.Equal(a, b) })
}

// seenTheSame asks that nothing is seen of it that a code was made another: P27.6. It tells how the first one ended.
func seenTheSame(t testing.TB, c, d api.Code, input []int64, l api.Limits, steps int) api.Outcome {
	t.Helper()
	a, b := ran(t, c, input, l, steps), ran(t, d, input, l, steps)
	if len(a.yields) > len(b.yields) || !slices.Equal(a.yields, b.yields[:len(a.yields)]) {
		t.Fatalf("P27.6: %s, %v, %v: yields %v; of %s %v", told(c), input, l, a.yields, told(d), b.yields)
	}
	for n := range a.behind {
		if b.behind[n] > a.behind[n] {
			t.Fatalf("P27.6: %s, %v, %v: yields behind %v; of %s behind %v", told(c), input, l, a.behind, told(d), b.behind)
		}
	}
	if a.result.Outcome.Phase != api.Running && (!sameEnd(a.result, b.result) || b.steps > a.steps || len(a.yields) != len(b.yields)) {
		t.Fatalf("P27.6: %s, %v, %v: %v; of %s %v", told(c), input, l, a.result, told(d), b.result)
	}
	return a.result.Outcome
}

// P27.1 to P27.8: grown codes.
func TestGrown(t *testing.T) {
	outcomes := map[api.Outcome]int{}
	shorter, whole := 0, 0
	for seed := range seeds(12000) {
		g := newGrower(seed)
		c := g.code(5 + g.Intn(60))
		short, safe := holds(t, c)
		if !safe {
			t.Fatalf("%s is not safe", told(c))
		}
		shorter, whole = shorter+len(short.Instrs), whole+len(c.Instrs)
		for _, one := range calls() {
			d, _ := one.do(c)
			for range 2 {
				outcomes[seenTheSame(t, c, d, g.input(), g.limits(), pick(g, 200, 50, 10, 2000))]++
			}
		}
	}
	if whole < 15*int(seeds(12000)) || shorter*4 > whole*3 {
		t.Errorf("of %d instructions %d are left", whole, shorter)
	}
	for _, want := range []api.Outcome{{}, {Phase: api.Ended}, {Phase: api.Trapped, Trap: api.TrapDivide}, {Phase: api.Trapped, Trap: api.TrapIndex}, {Phase: api.Trapped, Trap: api.TrapDepth}, {Phase: api.Trapped, Trap: api.TrapHeap}, {Phase: api.Trapped, Trap: api.TrapInput}, {Phase: api.Trapped, Trap: api.TrapLong}} {
		if outcomes[want] < int(seeds(50)) {
			t.Errorf("too few of %v: %v", want, outcomes)
		}
	}
}

// The four, one behind the other in any order, are each of them what the chapter says of what the last one made.
func TestInAnyOrder(t *testing.T) {
	for seed := range seeds(2000) {
		g := newGrower(seed)
		first := g.code(5 + g.Intn(40))
		c := first
		for range 4 {
			holds(t, c)
			c, _ = calls()[g.Intn(3)].do(c)
		}
		seenTheSame(t, first, c, g.input(), g.limits(), 300)
	}
}

// P27.2: where no way leads anything may stand, and jumps may name anything.
func TestGrownJunk(t *testing.T) {
	patterns := 0
	for seed := range seeds(60000) {
		g := newGrower(seed)
		c := mainOf(t, "done")
		for range 3 + g.Intn(14) {
			c.Instrs = append(c.Instrs, api.Instr{})
		}
		for at := 1; at < len(c.Instrs); at++ {
			c.Instrs[at] = g.one(c, at)
			if g.Intn(2) == 0 {
				c.Instrs[at] = pick(g, api.Instr{Op: api.InBool, A: g.Int63n(2)}, api.Instr{Op: api.InInt, A: g.number()}, api.Instr{Op: api.InFalse, A: g.target(c, at)})
			}
		}
		if _, safe := holds(t, c); !safe {
			t.Fatalf("%s is not safe", told(c))
		}
		if d, _ := Fold(c); len(d.Instrs) < len(c.Instrs) {
			patterns++
		}
	}
	if patterns < int(seeds(15000)) {
		t.Errorf("but %d had a pattern", patterns)
	}
}
