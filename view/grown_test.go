package view

import (
	"slices"
	"testing"

	"retrace/api"
	"retrace/events"
	"retrace/flow"
	"retrace/scope"
	"retrace/walk"
)

// vars are the variables of what is shown.
func vars(shown []api.Shown) []api.Var {
	var all []api.Var
	for _, s := range shown {
		all = append(all, s.Var)
	}
	return all
}

// shows asks P18.6 of a view that has just taken an event.
func shows(t *testing.T, p api.Program, v *View, e api.Event, depth int) {
	t.Helper()
	frames := v.Frames()
	if v.Depth() != depth || len(frames) != depth {
		t.Fatalf("behind %v: Depth is %d, there are %d frames, want %d", e, v.Depth(), len(frames), depth)
	}
	switch e.Kind {
	case api.EvStmt:
		want := scope.Visible(p.Tree, p.Scoped, e.Node)
		if got := vars(frames[0].Vars); !slices.Equal(got, want) {
			t.Fatalf("behind %v: variables %v, want %v", e, got, want)
		}
		if frames[0].Node != e.Node {
			t.Fatalf("behind %v: Node is %d", e, frames[0].Node)
		}
	case api.EvSet:
		found := slices.ContainsFunc(frames[0].Vars, func(s api.Shown) bool { return s.Var.Name == e.Name && s.Value == e.Value })
		if !found {
			t.Fatalf("behind %v: %v", e, frames[0].Vars)
		}
	}
	for _, f := range frames {
		for at, s := range f.Vars {
			if slices.ContainsFunc(f.Vars[:at], func(o api.Shown) bool { return o.Var.Name == s.Var.Name }) {
				t.Fatalf("behind %v: two of one name: %v", e, f.Vars)
			}
		}
	}
}

// follow has a view take the events of a run; how deep it is then is answered.
func follow(t *testing.T, p api.Program, run []api.Event) (v *View, depth int) {
	t.Helper()
	v, errno := New(p)
	if errno != api.OK {
		t.Fatal(errno)
	}
	for at, e := range run {
		if errno := v.Take(e); errno != api.OK {
			t.Fatalf("event %d, %v: %d", at+1, e, errno)
		}
		switch e.Kind {
		case api.EvCall:
			depth++
		case api.EvReturn, api.EvLeave:
			depth--
		}
		shows(t, p, v, e, depth)
		if v.Count() != at+1 {
			t.Fatalf("Count is %d, want %d", v.Count(), at+1)
		}
	}
	return v, depth
}

// P18.6: whatever a walk tells is taken, and what is shown is what can be named.
func TestWalksAreTaken(t *testing.T) {
	kinds, outcomes, hidden := map[api.EventKind]int{}, map[api.Phase]int{}, 0
	for seed := range seeds(4000) {
		g := grow(t, seed)
		run, errno := walk.Run(g.program, g.input, g.limits, 300)
		if errno != api.OK {
			t.Fatal(errno)
		}
		v, depth := follow(t, g.program, run.Events)
		if run.Outcome.Phase == api.Ended && depth != 0 {
			t.Fatalf("%s: at the end %d frames", g.text, depth)
		}
		outcomes[run.Outcome.Phase]++
		for _, e := range run.Events {
			kinds[e.Kind]++
		}
		for _, f := range v.frames {
			if len(f.vars) > len(f.seen()) {
				hidden++
			}
		}
	}
	for kind := api.EvStmt; kind <= api.EvTouch; kind++ {
		if kinds[kind] < 20 {
			t.Errorf("event %d came too seldom: %v", kind, kinds)
		}
	}
	if outcomes[api.Ended] < 10 || outcomes[api.Trapped] < 10 || outcomes[api.Running] < 10 || hidden < 2 {
		t.Errorf("too few of %v, %d hidden", outcomes, hidden)
	}
}

// P18.6 with P0.2: so is what the machine tells.
func TestMachinesAreTaken(t *testing.T) {
	for seed := range seeds(300) {
		g := grow(t, 2*seed) // without hooks
		b, problem := events.Build(g.text)
		if problem.Code != api.OK {
			t.Fatal(problem)
		}
		run, errno := events.Run(b, g.input, g.limits, 2000)
		if errno != api.OK {
			t.Fatal(errno)
		}
		if _, depth := follow(t, b.Program, run.Events); run.Outcome.Phase == api.Ended && depth != 0 {
			t.Fatalf("%s: at the end %d frames", g.text, depth)
		}
	}
}

// P18.6: the document's examples: a run that ends, and runs that trap.
func TestWholeExamples(t *testing.T) {
	const ten = "fn add(a: int, b: int): int {\n  return a + b;\n}\nfn main() {\n  var x: int = 2;\n  read x;\n  var a: [int] = new int[x];\n  a[1] = add(x, 40);\n  print x, a[1], \"ok\";\n}\n"
	p := front(t, ten)
	for _, c := range []struct {
		input  []int64
		limits api.Limits
		count  int
		frames string
	}{
		{[]int64{3}, api.Limits{Depth: 10, Cells: 100}, 16, ""},
		{[]int64{1}, api.Limits{Depth: 10, Cells: 100}, 13, "1 at 18 x0=1 a1=#1"},
		{nil, api.Limits{Depth: 10, Cells: 100}, 4, "1 at 13 x0=2"},
		{[]int64{3}, api.Limits{Depth: 10, Cells: 3}, 6, "1 at 15 x0=3"},
		{[]int64{3}, api.Limits{Depth: 1, Cells: 100}, 8, "1 at 18 x0=3 a1=#1"},
	} {
		run, errno := walk.Run(p, c.input, c.limits, 100)
		if errno != api.OK || len(run.Events) != c.count {
			t.Fatalf("%v: %d, %d events", c, errno, len(run.Events))
		}
		v, _ := follow(t, p, run.Events)
		if told(v) != c.frames || v.Count() != c.count {
			t.Errorf("%v: %q", c, told(v))
		}
	}
	v, _ := New(p)
	run, _ := walk.Run(p, []int64{3}, api.Limits{Depth: 10, Cells: 100}, 12)
	for _, e := range run.Events {
		v.Take(e)
	}
	if told(v) != "0 at 5 a0=3 b1=40; 1 at 18 x0=3 a1=#1" {
		t.Errorf("at position 12: %q", told(v))
	}
}

// P18.6: of a program with hooks the walk's events name its own nodes, and are taken.
func TestHookedProgram(t *testing.T) {
	p := hooked(t, "fn main() { @1; @2; for i = 1 to 2 { @3; @4 i; @5; print i; @6; } @7; }")
	run, _ := walk.Run(p, nil, api.Limits{Depth: 1}, 100)
	v, depth := follow(t, p, run.Events)
	if v.Count() != 11 || depth != 0 || len(flow.Dead(p.Tree)) != 0 {
		t.Errorf("%d events, %d frames", v.Count(), depth)
	}
}
