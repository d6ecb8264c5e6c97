package query

import (
	"slices"
	"testing"

	"retrace/api"
	"retrace/events"
	"retrace/monitor"
	"retrace/record"
	"retrace/view"
)

// somePositions are a few that a record has, its first and last ones among them.
func (g *grower) somePositions(r api.Record, count int) []int {
	all := []int{0, 1, len(r.Events) - 1, len(r.Events)}
	for range count {
		all = append(all, g.Intn(len(r.Events)+1))
	}
	return all
}

// P26.1 to P26.5, P26.8: any run of any program, stopped anywhere.
func TestGrown(t *testing.T) {
	kinds := map[api.EventKind]int{}
	for seed := range seeds(100) {
		g := newGrower(seed)
		p, r := g.program().walked(t, 1+g.Intn(250))
		if _, fits := tell(t, p, r); !fits {
			t.Fatalf("P26.8: %q: a run's record does not fit", p.Text)
		}
		agreesAt(t, p, r, g.somePositions(r, 6)...)
		for _, e := range r.Events {
			kinds[e.Kind]++
		}
	}
	if len(kinds) != 8 || kinds[api.EvTouch] < 20 {
		t.Errorf("not all came: %v", kinds)
	}
}

// P26.8: all that a run tells fits, wherever it is stopped; and all calls take it.
func TestRunsFit(t *testing.T) {
	for seed := range seeds(10) {
		g := newGrower(1e6 + seed)
		p, r := g.program().walked(t, 60)
		for n := range r.Events {
			part := of(r.Events[:n]...)
			refuses(t, p, part, true)
			if _, errno := Frames(p, part, n); errno != api.OK {
				t.Fatalf("P26.8: %q: the first %d events: %d", p.Text, n, errno)
			}
		}
	}
}

// setIsShown asks P26.6 of a record that fits, at a position.
func setIsShown(t *testing.T, w tale, r api.Record, at int) {
	t.Helper()
	for _, name := range variables(w.p) {
		k, errno := Setter(w.p, r, name, at)
		if errno != api.OK {
			t.Fatal(errno)
		}
		if k == 0 {
			continue
		}
		shown := func(at int) api.Shown {
			frames, _ := Frames(w.p, r, at)
			n := slices.IndexFunc(frames[0].Vars, func(s api.Shown) bool { return s.Var.Name == name })
			return frames[0].Vars[n]
		}
		now, e := shown(at), r.Events[k-1]
		if now.Value != e.Value {
			t.Fatalf("P26.6: %q: at %d %s is %v, but %d has set %v", w.p.Text, at, name, now.Value, k, e.Value)
		}
		inner := w.scenes[at].behind[len(w.scenes[at].behind)-1]
		history, _ := History(w.p, r, w.p.Scoped.Funcs[inner.function].Name, name)
		if !slices.Contains(history, api.Change{At: k, Node: e.Node, Value: e.Value}) {
			t.Fatalf("P26.6: %q: %d is not among %v", w.p.Text, k, history)
		}
		for j := k; j <= at; j++ {
			behind := w.scenes[j].behind
			if behind[len(behind)-1] != inner {
				continue
			}
			if then := shown(j); then.Var.Slot < now.Var.Slot || then.Var == now.Var && then != now {
				t.Fatalf("P26.6: %q: at %d %s is %v, at %d it was %v", w.p.Text, at, name, now, j, then)
			}
		}
	}
}

// nothingIsLost asks P26.7 of a record that fits, of a program with its source.
func nothingIsLost(t *testing.T, p api.Program, r api.Record) {
	t.Helper()
	counts := map[api.EventKind]int{}
	for _, e := range r.Events {
		counts[e.Kind]++
	}
	coverage, _ := Coverage(p, r)
	profile, errno := Profile(p, r)
	lines, own, calls := 0, 0, 0
	for _, n := range coverage {
		lines += n
	}
	for n, c := range profile {
		own += c.Own
		calls += c.Calls
		if c.Func != n || c.All < c.Own || c.All > counts[api.EvStmt] || p.Scoped.Funcs[n].Name == "main" && c.All != counts[api.EvStmt] {
			t.Fatalf("P26.7: %q: %v", p.Text, profile)
		}
	}
	if lines != counts[api.EvStmt] || own != counts[api.EvStmt] || calls != counts[api.EvCall] || errno != api.OK {
		t.Fatalf("P26.7: %q: %v, %v, of %v", p.Text, coverage, profile, counts)
	}
}

// P26.6, P26.7: of any run, and of any other record that fits.
func TestWhatComesOfIt(t *testing.T) {
	for seed := range seeds(100) {
		g := newGrower(2e6 + seed)
		p, r := g.program().walked(t, 1+g.Intn(120))
		if seed%2 == 0 {
			r = g.stray(t, p, r)
		}
		w, fits := tell(t, p, r)
		if !fits {
			t.Fatalf("%q: %v does not fit", p.Text, r.Events)
		}
		nothingIsLost(t, p, r)
		for _, at := range g.somePositions(r, 3) {
			setIsShown(t, w, r, max(at, 0))
		}
	}
}

// someValue is of any kind.
func (g *grower) someValue() api.Value {
	return []api.Value{{}, {}, number(0), number(7), number(-1), truth(0), truth(1), text(""), text("ab"), reference(0), reference(1), reference(2)}[g.Intn(12)]
}

// stray makes a record that fits, in which a run's events are mixed with some that no run would bring there.
func (g *grower) stray(t testing.TB, p api.Program, run api.Record) api.Record {
	t.Helper()
	v, errno := view.New(p)
	if errno != api.OK {
		t.Fatal(errno)
	}
	var all []api.Event
	next := 0
	for range 4 * len(run.Events) {
		e := run.Events[g.Intn(len(run.Events))]
		switch g.Intn(8) {
		case 0, 1, 2:
			e = run.Events[next]
			next = (next + 1) % len(run.Events)
		case 3, 4:
			e = api.Event{Kind: api.EventKind(1 + g.Intn(8)), Node: g.Intn(len(p.Tree.Nodes)), Value: g.someValue()}
			if e.Kind == api.EvCall || e.Kind == api.EvSet || e.Kind == api.EvTouch {
				e.Name = g.pick(append(variables(p), p.Tree.Nodes[e.Node].Name)...)
			}
		case 5:
			e.Value = g.someValue()
		}
		if (e.Kind == api.EvReturn || e.Kind == api.EvLeave) && v.Depth() == 1 && g.Intn(40) > 0 {
			continue // so that it does not end too soon
		}
		if v.Take(e) == api.OK {
			all = append(all, e)
		}
	}
	return of(all...)
}

// P26.1 to P26.5: records that fit, of no run.
func TestStray(t *testing.T) {
	most := 0
	for seed := range seeds(120) {
		g := newGrower(3e6 + seed)
		p, r := g.program().walked(t, 1+g.Intn(150))
		r = g.stray(t, p, r)
		most = max(most, len(r.Events))
		agreesAt(t, p, r, g.somePositions(r, 6)...)
	}
	if most < 100 {
		t.Errorf("at most %d events", most)
	}
}

// P26.1 to P26.5: records of which an event is another, lacks, or stands elsewhere; most do not fit, whatever is asked.
func TestSpoilt(t *testing.T) {
	fit, not := 0, 0
	for seed := range seeds(300) {
		g := newGrower(4e6 + seed)
		p, r := g.program().walked(t, 2+g.Intn(60))
		n, m := g.Intn(len(r.Events)), g.Intn(len(r.Events))
		e := &r.Events[n]
		switch g.Intn(7) {
		case 0:
			e.Kind = api.EventKind(g.Intn(11) - 1)
		case 1:
			e.Node = []int{-1, 0, len(p.Tree.Nodes), 1 << 62, g.Intn(len(p.Tree.Nodes))}[g.Intn(5)]
		case 2:
			e.Name = g.pick(names(p)...)
		case 3:
			e.Value = g.someValue()
		case 4:
			r.Events = slices.Delete(r.Events, n, n+1)
		case 5:
			r.Events = slices.Insert(r.Events, n, r.Events[m])
		case 6:
			r.Events[n], r.Events[m] = r.Events[m], r.Events[n]
		}
		if _, fits := tell(t, p, r); fits {
			fit++
			agreesAt(t, p, r, g.somePositions(r, 3)...)
		} else {
			not++
			refuses(t, p, r, true)
		}
	}
	if fit < int(seeds(15)) || not < int(seeds(90)) {
		t.Errorf("%d fit, %d do not", fit, not)
	}
}

// P0.9: a record that was kept as bytes is told as a debugger shows the run, in whatever order the positions are gone to.
func TestToldAsShown(t *testing.T) {
	for seed := range seeds(100) {
		g := newGrower(5e6 + seed)
		one := g.program()
		b, problem := events.Build(one.source)
		if problem.Code != api.OK {
			t.Fatalf("%q is refused: %v", one.source, problem)
		}
		steps := 1 + g.Intn(2000)
		made, problem := record.Of(one.source, one.input, one.limits, steps)
		laid, errno := record.Encode(made)
		r, other := record.Decode(laid)
		if problem.Code != api.OK || errno != api.OK || other != api.OK || !slices.Equal(r.Events, made.Events) || r.Output != made.Output || r.Input != made.Input || r.Outcome != made.Outcome {
			t.Fatalf("P0.9: %q: %v, %d, %d", one.source, problem, errno, other)
		}
		m, errno := monitor.New(b, one.input, one.limits, steps)
		if errno != api.OK {
			t.Fatal(errno)
		}
		for _, at := range g.somePositions(r, 12) {
			if at < 0 {
				continue
			}
			if at != m.At() {
				if stop, errno := m.Move(api.Command{Kind: api.CmGoto, N: at}); errno != api.OK || stop.At != at {
					t.Fatalf("%q: goto %d: %+v, %d", one.source, at, stop, errno)
				}
			}
			frames, errno := Frames(b.Program, r, at)
			if errno != api.OK || !sameFrames(frames, m.Frames()) {
				t.Fatalf("P0.9: %q: at %d: %v, %d, the debugger shows %v", one.source, at, frames, errno, m.Frames())
			}
			shownIsSet(t, b.Program, r, m)
		}
	}
}

// shownIsSet asks that each variable that a debugger shows where it stands has one that has set it, and is what that one has set.
func shownIsSet(t *testing.T, p api.Program, r api.Record, m *monitor.Monitor) {
	t.Helper()
	shown := map[string]api.Value{}
	if frames := m.Frames(); len(frames) > 0 {
		for _, s := range frames[0].Vars {
			shown[s.Var.Name] = s.Value
		}
	}
	for _, name := range variables(p) {
		k, errno := Setter(p, r, name, m.At())
		v, is := shown[name]
		if errno != api.OK || is != (k > 0) || is && r.Events[k-1].Value != v {
			t.Fatalf("P0.9: %q: at %d: %s is set at %d, the debugger shows %v", p.Text, m.At(), name, k, v)
		}
	}
}
