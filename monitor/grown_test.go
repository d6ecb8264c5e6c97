package monitor

import (
	"testing"

	"retrace/api"
)

func grownRun(t testing.TB, g *grower) *plainRun {
	return g.run(t, []int{20, 100, 700, 1500}[g.Intn(4)])
}

// command makes one that moves.
func (g *grower) command(p *plainMonitor) api.Command {
	if g.Intn(6) > 0 {
		return api.Command{Kind: movements[g.Intn(len(movements))]}
	}
	n := g.Intn(p.run.last() + 1)
	switch g.Intn(6) {
	case 0:
		n = p.at + 1 + g.Intn(3)
	case 1:
		n = p.at
	case 2:
		n = p.run.last() + 1
	case 3:
		n = -g.Intn(3)
	}
	return api.Command{Kind: api.CmGoto, N: n}
}

// setting makes a command on points.
func (g *grower) setting() api.Command {
	if g.Intn(3) == 0 {
		kind := []api.CommandKind{api.CmDelete, api.CmEnable, api.CmDisable, api.CmDisable}[g.Intn(4)]
		return api.Command{Kind: kind, N: g.Intn(9)}
	}
	point := g.point()
	if point.Kind == api.PtWatch {
		return api.Command{Kind: api.CmWatch, Point: point}
	}
	return api.Command{Kind: api.CmBreak, Point: point}
}

func (g *grower) budget() int {
	return []int{-1, 0, 1, 3, 8, 20, 50, 200, 1000, 5000, api.MaxBudget}[g.Intn(11)]
}

// P22.2 to P22.8: any commands in any order, at any run.
func TestGrownCommands(t *testing.T) {
	stops, errors := [7]int{}, map[api.Errno]int{}
	for seed := range seeds(800) {
		g := newGrower(seed)
		p := grownRun(t, g).pair(t, g.budget())
		for range 60 + g.Intn(60) {
			if g.Intn(8) == 0 {
				p.sets(g.setting())
			} else if told := p.moves(g.command(&p.plain)); !told.unknown {
				stops[told.stop.Kind]++
				errors[told.errno]++
			}
			p.stands()
		}
	}
	for kind, count := range stops {
		if count == 0 {
			t.Errorf("the stop %d never came", kind)
		}
	}
	for _, errno := range []api.Errno{api.OK, api.ErrOver, api.ErrStart, api.ErrBudget} {
		if errors[errno] == 0 {
			t.Errorf("the error %d never came", errno)
		}
	}
}

// sameShown holds what two monitors show against each other.
func sameShown(t testing.TB, a, b *Monitor) {
	t.Helper()
	lastA, someA := a.Last()
	lastB, someB := b.Last()
	if a.At() != b.At() || lastA != lastB || someA != someB || !sameFrames(a.Frames(), b.Frames()) || !sameRun(a.Result(), b.Result()) {
		t.Fatalf("P22.9: at %d and %d: %+v, %+v", a.At(), b.At(), a.Result(), b.Result())
	}
}

// P0.7, P22.9: a monitor that has gone astray and was brought back by a goto shows the same and goes on the same as one that came there straight.
func TestGrownCursor(t *testing.T) {
	for seed := range seeds(400) {
		g := newGrower(seed + 5000)
		r := grownRun(t, g)
		budget := []int{40, 300, 5000, api.MaxBudget}[g.Intn(4)]
		straight, astray := r.pair(t, budget), r.pair(t, budget)
		for range 1 + g.Intn(6) {
			c := g.setting()
			straight.sets(c)
			astray.sets(c)
		}
		for range 10 + g.Intn(30) {
			astray.moves(g.command(&astray.plain))
		}
		target := g.Intn(r.last() + 1)
		if !reaches(straight, target) || !reaches(astray, target) {
			continue
		}
		for range 20 {
			sameShown(t, straight.monitor, astray.monitor)
			c := g.command(&straight.plain)
			if straight.moves(c).unknown || astray.moves(c).unknown {
				break
			}
		}
	}
}

// reaches brings a pair to a position by gotos, if the budget leads there.
func reaches(p *pair, at int) bool {
	for range 2000 {
		before := p.plain.at
		if told := p.goesTo(at); told.unknown || told.errno == api.ErrBudget && p.plain.at == before {
			return false
		}
		if p.plain.at == at {
			return true
		}
	}
	return false
}

// P22.10: a step and a step back; no point lies between where a command to a point began and where it stopped.
func TestGrownUndone(t *testing.T) {
	steps, forward, back := 0, 0, 0
	for seed := range seeds(300) {
		g := newGrower(seed + 9000)
		r := grownRun(t, g)
		p := r.pair(t, api.MaxBudget)
		for range 1 + g.Intn(6) {
			p.sets(g.setting())
		}
		hasNone := func(from, to int) {
			t.Helper()
			for at := from; at < to; at++ {
				if p.plain.pointAt(at) != 0 {
					p.wrong("P22.10", at, nil)
				}
			}
		}
		for range 40 {
			at, over := p.plain.at, p.plain.over
			c := g.command(&p.plain)
			told := p.moves(c)
			switch {
			case told.unknown:
			case c.Kind == api.CmStep && told.stop.Kind == api.StopStep:
				steps++
				p.does(api.CmBack)
				if p.plain.at != told.stop.At-1 {
					p.wrong("P22.10: back", p.plain.at, told.stop.At-1)
				}
			case c.Kind == api.CmRcontinue && told.stop.Kind == api.StopPoint:
				back++
				if over {
					at++
				}
				hasNone(told.stop.At+1, at)
				next := p.does(api.CmContinue)
				if next.stop.Kind == api.StopPoint && next.stop.At < at {
					p.wrong("P22.10: continue", next, at)
				}
			case told.stop.Kind == api.StopPoint:
				forward++
				hasNone(at+1, told.stop.At)
			}
		}
	}
	if steps == 0 || forward == 0 || back == 0 {
		t.Errorf("%d, %d and %d", steps, forward, back)
	}
}
