package query

import (
	"slices"
	"strings"
	"testing"

	"retrace/alike"
	"retrace/api"
	"retrace/flow"
	"retrace/view"
)

// This file says the chapter's words a second time: each position is kept whole, with all its frames, and each answer is searched for anew.

// calling is a frame: two of one function are told apart by which of all calls they are.
type calling struct {
	which    int
	function int
}

// scene is a position: its event, the frames ahead of it and behind it, the innermost last, and what the view shows behind it.
type scene struct {
	event         api.Event
	ahead, behind []calling
	shown         []api.Frame
}

// tale is a program and all positions of a record that fits it; the first scene, without an event, is position 0.
type tale struct {
	p      api.Program
	scenes []scene
}

// tell goes through a record; fits tells whether all of it fits.
func tell(t testing.TB, p api.Program, r api.Record) (told tale, fits bool) {
	t.Helper()
	v, errno := view.New(p)
	if errno != api.OK {
		t.Fatal(errno)
	}
	told = tale{p: p, scenes: []scene{{}}}
	for n, e := range r.Events {
		if v.Take(e) != api.OK {
			return tale{}, false
		}
		s := scene{event: e, ahead: told.scenes[n].behind, shown: v.Frames()}
		switch e.Kind {
		case api.EvCall:
			function := slices.IndexFunc(p.Scoped.Funcs, func(f api.Func) bool { return f.Name == e.Name })
			s.behind = append(slices.Clone(s.ahead), calling{n, function})
		case api.EvReturn, api.EvLeave:
			s.behind = slices.Clone(s.ahead[:len(s.ahead)-1])
		default:
			s.behind = s.ahead
		}
		if len(s.behind) != len(s.shown) {
			t.Fatalf("behind %v: %d frames, the view has %d", e, len(s.behind), len(s.shown))
		}
		for n, f := range slices.Backward(s.behind) {
			if s.shown[len(s.behind)-1-n].Func != f.function {
				t.Fatalf("behind %v: frames %v, the view has %v", e, s.behind, s.shown)
			}
		}
		told.scenes = append(told.scenes, s)
	}
	return told, true
}

// frame is the frame of the event.
func (s scene) frame() calling {
	if s.event.Kind == api.EvReturn || s.event.Kind == api.EvLeave {
		return s.ahead[len(s.ahead)-1]
	}
	return s.behind[len(s.behind)-1]
}

// sets tells which variable the event sets, if it sets one.
func (w tale) sets(s scene) (api.Var, bool) {
	if s.event.Kind != api.EvSet {
		return api.Var{}, false
	}
	vars := w.p.Scoped.Funcs[s.frame().function].Vars
	n := slices.IndexFunc(vars, func(v api.Var) bool { return v.Node == s.event.Node })
	if n < 0 {
		slot := w.p.Scoped.Slots[s.event.Node+1]
		n = slices.IndexFunc(vars, func(v api.Var) bool { return v.Slot == slot })
	}
	return vars[n], true
}

func (w tale) history(function, name string) []api.Change {
	var all []api.Change
	for at, s := range w.scenes {
		if v, some := w.sets(s); some && v.Name == name && w.p.Scoped.Funcs[s.frame().function].Name == function {
			all = append(all, api.Change{At: at, Node: s.event.Node, Value: s.event.Value})
		}
	}
	return all
}

func (w tale) setter(name string, at int) int {
	now := w.scenes[at]
	if len(now.shown) == 0 {
		return 0
	}
	for _, shown := range now.shown[0].Vars {
		if shown.Var.Name != name {
			continue
		}
		for n := at; n > 0; n-- {
			if v, some := w.sets(w.scenes[n]); some && v == shown.Var && w.scenes[n].frame() == now.behind[len(now.behind)-1] {
				return n
			}
		}
	}
	return 0
}

func (w tale) coverage() []int {
	counts := make([]int, strings.Count(w.p.Text, "\n")+1)
	for _, s := range w.scenes {
		if s.event.Kind != api.EvStmt {
			continue
		}
		if at := w.p.Tree.Nodes[s.event.Node].At; at >= 0 && at <= len(w.p.Text) {
			counts[strings.Count(w.p.Text[:at], "\n")]++
		}
	}
	return counts
}

func (w tale) profile() []api.Cost {
	var all []api.Cost
	for n := range w.p.Scoped.Funcs {
		cost := api.Cost{Func: n}
		for _, s := range w.scenes {
			switch s.event.Kind {
			case api.EvCall:
				if s.frame().function == n {
					cost.Calls++
				}
			case api.EvStmt:
				if s.frame().function == n {
					cost.Own++
				}
				if slices.ContainsFunc(s.behind, func(c calling) bool { return c.function == n }) {
					cost.All++
				}
			}
		}
		all = append(all, cost)
	}
	return all
}

func sameFrames(a, b []api.Frame) bool {
	return slices.EqualFunc(a, b, func(a, b api.Frame) bool {
		return a.Func == b.Func && a.Node == b.Node && slices.Equal(a.Vars, b.Vars)
	})
}

// isChecked is the document's word: flow.Tree answers just its Scoped and Types.
func isChecked(p api.Program) bool {
	own, problem := flow.Tree(p.Tree)
	return problem.Code == api.OK && alike.Program(own, p)
}

// names are all that stand in the program, the empty one, and one that does not.
func names(p api.Program) []string {
	all := []string{"", "other"}
	for _, node := range p.Tree.Nodes {
		if !slices.Contains(all, node.Name) {
			all = append(all, node.Name)
		}
	}
	return all
}

// variables are the names of all variables.
func variables(p api.Program) []string {
	var all []string
	for _, f := range p.Scoped.Funcs {
		for _, v := range f.Vars {
			if !slices.Contains(all, v.Name) {
				all = append(all, v.Name)
			}
		}
	}
	return all
}

// errnoOf is what a call should answer: ErrArg, then ErrAsk, then ErrFold.
func errnoOf(checked, mayBeAsked, fits bool) api.Errno {
	switch {
	case !checked:
		return api.ErrArg
	case !mayBeAsked:
		return api.ErrAsk
	case !fits:
		return api.ErrFold
	}
	return api.OK
}

// agrees asks of a record that fits or not whatever can be asked, at each position and beyond.
func agrees(t testing.TB, p api.Program, r api.Record) {
	t.Helper()
	positions := make([]int, len(r.Events)+3)
	for n := range positions {
		positions[n] = n - 1
	}
	agreesAt(t, p, r, positions...)
}

// agreesAt asks of a record what can be asked, at some positions.
func agreesAt(t testing.TB, p api.Program, r api.Record, positions ...int) {
	t.Helper()
	w, fits := tell(t, p, r)
	if !fits {
		refuses(t, p, r, true)
		return
	}
	w.agreesWhole(t, r)
	for _, at := range positions {
		if at < 0 || at > len(r.Events) {
			continue
		}
		frames, errno := Frames(p, r, at)
		if errno != api.OK || !sameFrames(frames, w.scenes[at].shown) {
			t.Fatalf("P26.5: %q, %v: Frames(%d) = %v, %d, want %v", p.Text, r.Events, at, frames, errno, w.scenes[at].shown)
		}
		for _, name := range append(variables(p), "", "other") {
			want := w.setter(name, at)
			if n, errno := Setter(p, r, name, at); n != want || errno != api.OK {
				t.Fatalf("P26.2: %q, %v: Setter(%s, %d) = %d, %d, want %d", p.Text, r.Events, name, at, n, errno, want)
			}
		}
	}
}

// agreesWhole asks of a record that fits what has no position.
func (w tale) agreesWhole(t testing.TB, r api.Record) {
	t.Helper()
	if l, errno := Coverage(w.p, r); !slices.Equal(l, w.coverage()) || errno != api.OK {
		t.Fatalf("P26.3: %q, %v: Coverage = %v, %d, want %v", w.p.Text, r.Events, l, errno, w.coverage())
	}
	if l, errno := Profile(w.p, r); !slices.Equal(l, w.profile()) || errno != api.OK {
		t.Fatalf("P26.4: %q, %v: Profile = %v, %d, want %v", w.p.Text, r.Events, l, errno, w.profile())
	}
	for _, f := range w.p.Scoped.Funcs {
		for _, v := range f.Vars {
			want := w.history(f.Name, v.Name)
			if l, errno := History(w.p, r, f.Name, v.Name); !slices.Equal(l, want) || errno != api.OK {
				t.Fatalf("P26.1: %q, %v: History(%s, %s) = %v, %d, want %v", w.p.Text, r.Events, f.Name, v.Name, l, errno, want)
			}
		}
	}
}

// refuses asks that each call answers the error that comes first, and nothing else with it, or none: at each position's edge, and of each function a variable, one that it has not, and what is none.
func refuses(t testing.TB, p api.Program, r api.Record, checked bool) {
	t.Helper()
	fits := false
	if checked {
		_, fits = tell(t, p, r)
	}
	whole := errnoOf(checked, true, fits)
	coverage, errno := Coverage(p, r)
	if errno != whole || whole != api.OK && coverage != nil {
		t.Fatalf("P26.3: %v: Coverage = %v, %d, want %d", r.Events, coverage, errno, whole)
	}
	profile, errno := Profile(p, r)
	if errno != whole || whole != api.OK && profile != nil {
		t.Fatalf("P26.4: %v: Profile = %v, %d, want %d", r.Events, profile, errno, whole)
	}
	for _, at := range []int{-1, 0, len(r.Events), len(r.Events) + 1} {
		want := errnoOf(checked, at >= 0 && at <= len(r.Events), fits)
		if frames, errno := Frames(p, r, at); errno != want || want != api.OK && frames != nil {
			t.Fatalf("P26.5: %v: Frames(%d) = %v, %d, want %d", r.Events, at, frames, errno, want)
		}
		for _, name := range []string{"n", "other"} {
			if n, errno := Setter(p, r, name, at); errno != want || want != api.OK && n != 0 {
				t.Fatalf("P26.2: %v: Setter(%s, %d) = %d, %d, want %d", r.Events, name, at, n, errno, want)
			}
		}
	}
	for _, f := range append(slices.Clone(p.Scoped.Funcs), api.Func{Name: "other"}) {
		for _, name := range []string{"n", "i", "other"} {
			refusesHistory(t, p, r, f, name, checked, fits)
		}
	}
}

func refusesHistory(t testing.TB, p api.Program, r api.Record, f api.Func, name string, checked, fits bool) {
	t.Helper()
	mayBe := slices.ContainsFunc(f.Vars, func(v api.Var) bool { return v.Name == name })
	want := errnoOf(checked, mayBe, fits)
	if l, errno := History(p, r, f.Name, name); errno != want || want != api.OK && l != nil {
		t.Fatalf("P26.1: %v: History(%s, %s) = %v, %d, want %d", r.Events, f.Name, name, l, errno, want)
	}
}
