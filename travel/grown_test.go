package travel

import (
	"testing"

	"retrace/api"
	"retrace/events"
)

// grownRun makes a run, and how many of its events an engine is to go through; all are known, and what is behind them.
func grownRun(t testing.TB, g *grower) *plainRun {
	return g.run(t, []int{20, 100, 400}[g.Intn(3)])
}

func (g *grower) every() int {
	return []int{0, 1, 1, 2, 3, 5, 1 + g.Intn(60), 1000000}[g.Intn(8)]
}

// budget is one of all sizes, most of them near to what the next event wants.
func (g *grower) budget(p *plainEngine) int {
	near := 5
	if p.at < p.run.last() {
		near = p.run.marks[p.at+1] - p.run.marks[p.at]
	}
	switch g.Intn(9) {
	case 0:
		return -g.Intn(4)
	case 1, 2:
		return near - 1
	case 3, 4:
		return near
	case 5:
		return near + 1
	case 6:
		return g.Intn(2 * near)
	case 7:
		return api.MaxBudget + g.Intn(2)
	}
	return 1000
}

func (g *grower) position(p *plainEngine) int {
	switch g.Intn(8) {
	case 0:
		return 0
	case 1, 2:
		return p.at - 1
	case 3:
		return p.at
	case 4:
		return p.at + 1
	case 5:
		return -1 - g.Intn(3)
	}
	return g.Intn(p.at + 1)
}

// P21.2 to P21.7: any calls in any order, at any run.
func TestGrownCalls(t *testing.T) {
	ways, outcomes := [9]int{}, [3]int{}
	for seed := range seeds(500) {
		g := newGrower(seed)
		r := grownRun(t, g)
		p := r.pair(t, g.every())
		for range 40 + g.Intn(100) {
			switch way := g.Intn(6); {
			case way < 2 && r.isKnown(p.plain.at):
				ways[p.forwardWay(g.budget(&p.plain))]++
			case way == 2:
				// A piece of the run at once.
				for range g.Intn(60) {
					if r.isKnown(p.plain.at) && !p.plain.over {
						p.forward(api.MaxBudget)
					}
				}
			case way == 3:
				p.seen(g.Intn(r.last()+4) - 2)
			default:
				p.back(g.position(&p.plain))
				ways[8]++
			}
			p.stands()
		}
		outcomes[r.end.Outcome.Phase]++
	}
	for n, count := range append(ways[:4:4], ways[8]) {
		if count == 0 {
			t.Errorf("the way %d never came", n)
		}
	}
	if outcomes[api.Running] == 0 || outcomes[api.Ended] == 0 || outcomes[api.Trapped] == 0 {
		t.Errorf("outcomes %v", outcomes)
	}
}

// forwardWay tells which of its ways a Forward has gone.
func (p *pair) forwardWay(budget int) int {
	p.Helper()
	switch p.forward(budget) {
	case api.OK:
		return 0
	case api.ErrBudget:
		return 1
	case api.ErrOver:
		return 2
	}
	return 3
}

// P0.7, P21.7: two engines that came to a place by two ways, and keep other states, show the same and go on the same.
func TestGrownThereAndBack(t *testing.T) {
	for seed := range seeds(300) {
		g := newGrower(seed + 5000)
		r := grownRun(t, g)
		straight, astray := r.pair(t, g.every()), r.pair(t, g.every())
		target, over := g.Intn(r.last()+1), false
		if r.ends && g.Intn(4) == 0 {
			target, over = r.last(), true
		}
		straight.comes(target, over)
		for range 1 + g.Intn(8) {
			astray.comes(g.Intn(r.last()+1), r.ends && g.Intn(5) == 0)
			if r.isKnown(astray.plain.at) {
				astray.forward(g.budget(&astray.plain))
			}
		}
		astray.comes(target, over)
		for range 30 {
			sameShown(t, straight.engine, astray.engine)
			if straight.plain.at != astray.plain.at || straight.plain.over != astray.plain.over {
				t.Fatalf("the plain engines are apart")
			}
			if g.Intn(3) > 0 {
				at := g.position(&straight.plain)
				straight.back(at)
				astray.back(at)
			} else if r.isKnown(straight.plain.at) {
				budget := g.budget(&straight.plain)
				straight.forward(budget)
				astray.forward(budget)
			}
		}
	}
}

// sameShown holds what two engines show against each other.
func sameShown(t testing.TB, a, b *Engine) {
	t.Helper()
	lastA, someA := a.Last()
	lastB, someB := b.Last()
	if a.At() != b.At() || a.Steps() != b.Steps() || lastA != lastB || someA != someB || !sameFrames(a.Frames(), b.Frames()) || !sameRun(a.Result(), b.Result()) {
		t.Fatalf("P21.7: at %d and %d: %+v, %+v", a.At(), b.At(), a.Result(), b.Result())
	}
}

// P21.8: it is the run: events.Run and events.Marks tell the same of it.
func TestGrownIsTheRun(t *testing.T) {
	for seed := range seeds(60) {
		g := newGrower(seed + 9000)
		r := g.run(t, 40)
		isTheRun(t, r, g.every())
	}
}

// isTheRun goes through all of a run that is known, and holds it against events.Run and events.Marks.
func isTheRun(t testing.TB, r *plainRun, every int) {
	t.Helper()
	steps := r.marks[r.last()]
	if r.ends {
		steps = r.end.Steps
	}
	run, errno := events.Run(r.built, r.input, r.limits, steps)
	marks, _ := events.Marks(r.built, r.input, r.limits, steps)
	if errno != api.OK || len(run.Events) != r.last() || len(marks) != r.last() {
		t.Fatalf("P21.8: %d: %d events, %d marks, want %d", errno, len(run.Events), len(marks), r.last())
	}
	e, _ := New(r.built, r.input, r.limits, every)
	for at := 0; ; at++ {
		if at > 0 && e.Steps() != marks[at-1] {
			t.Fatalf("P21.8: Steps at %d = %d, want %d", at, e.Steps(), marks[at-1])
		}
		then, _ := events.Run(r.built, r.input, r.limits, e.Steps())
		then.Events = nil
		if got := e.Result(); !sameRun(got, then) {
			t.Fatalf("P21.8: Result at %d = %+v, want %+v", at, got, then)
		}
		if at == r.last() {
			break
		}
		gap := marks[at] - e.Steps()
		if _, _, errno := e.Forward(gap - 1); errno != api.ErrBudget || e.At() != at {
			t.Fatalf("P21.8: at %d, one instruction less: %d", at, errno)
		}
		if event, done, errno := e.Forward(gap); event != run.Events[at] || done != gap || errno != api.OK {
			t.Fatalf("P21.8: at %d: %+v, %d, %d, want %+v, %d", at, event, done, errno, run.Events[at], gap)
		}
	}
	if !r.ends {
		return
	}
	if _, done, errno := e.Forward(api.MaxBudget); errno != api.ErrOver || e.Steps() != steps || done != steps-r.marks[r.last()] {
		t.Fatalf("P21.8: at the end: %d, %d, %d", done, errno, e.Steps())
	}
	run.Events = nil
	if got := e.Result(); !sameRun(got, run) {
		t.Fatalf("P21.8: Result at the end = %+v, want %+v", got, run)
	}
}

// P21.8: the runs of all kinds.
func TestSomeAreTheRun(t *testing.T) {
	for _, r := range someRuns(t) {
		for _, every := range []int{0, 2} {
			isTheRun(t, r, every)
		}
	}
}
