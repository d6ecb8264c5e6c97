package travel

import (
	"testing"

	"retrace/api"
	"retrace/code"
	"retrace/events"
)

const endless = "fn main() { var x: int = 2; print x; while true { } }"

func engineOf(t testing.TB, text string, every int) *Engine {
	t.Helper()
	built, problem := events.Build(text)
	if problem.Code != api.OK {
		t.Fatalf("%q: %+v", text, problem)
	}
	e, errno := New(built, nil, enough, every)
	if errno != api.OK {
		t.Fatalf("New: %d", errno)
	}
	return e
}

// forward is a call of Forward with its answer.
type forward struct {
	budget int
	kind   api.EventKind
	done   int
	errno  api.Errno
}

func goes(t *testing.T, e *Engine, rows ...forward) {
	t.Helper()
	for n, row := range rows {
		event, done, errno := e.Forward(row.budget)
		if event.Kind != row.kind || done != row.done || errno != row.errno {
			t.Errorf("row %d: Forward(%d) = %+v, %d, %d, want %+v", n+1, row.budget, event, done, errno, row)
		}
		if row.errno != api.ErrBudget && e.Work() != row.done {
			t.Errorf("row %d: Work = %d, want %d", n+1, e.Work(), row.done)
		}
	}
}

func goesBack(t *testing.T, e *Engine, at int, want api.Errno, most int) {
	t.Helper()
	if errno := e.Back(at); errno != want || e.Work() < 0 || e.Work() > most {
		t.Errorf("Back(%d) = %d with work %d, want %d with %d at most", at, errno, e.Work(), want, most)
	}
}

func shows(t *testing.T, e *Engine, at, steps int, output string, outcome api.Outcome) {
	t.Helper()
	if got := e.Result(); e.At() != at || e.Steps() != steps || got.Steps != steps || got.Output != output || got.Outcome != outcome {
		t.Errorf("At %d, Steps %d, Result %+v, want %d, %d, %q, %+v", e.At(), e.Steps(), got, at, steps, output, outcome)
	}
}

// The code that the chapter's marks go by.
func TestExampleCode(t *testing.T) {
	built, _ := events.Build(endless)
	text, _ := code.Print(built.Code)
	want := "main 0\nfn main 0 - int\n  emit 1\n  emit 2\n  int 2\n  store 0\n  show 3 0\n  emit 4\n  load 0\n  print 1\n  emit 5\n  bool true\n  false 15\n  nop\n  emit 6\n  emit 7\n  jump 9\n  emit 8\n  done\n"
	if text != want {
		t.Errorf("%s", text)
	}
}

// P21.2 to P21.6: the calls of the chapter's table, with some states kept and without.
func TestExample(t *testing.T) {
	running := api.Outcome{}
	for _, row := range []struct{ every, back4 int }{{0, 6}, {1, 0}, {2, 0}, {3, 1}, {4, 0}, {5, 6}, {100, 6}} {
		e := engineOf(t, endless, row.every)
		shows(t, e, 0, 0, "", running)
		if last, some := e.Last(); last != (api.Event{}) || some || len(e.Frames()) != 0 || e.Work() != 0 {
			t.Errorf("at the beginning: %+v, %v, %+v, work %d", last, some, e.Frames(), e.Work())
		}
		goes(t, e, forward{0, 0, 0, api.ErrBudget})
		if e.Work() != 0 {
			t.Errorf("behind Forward(0): %d", e.Work())
		}
		goes(t, e, forward{1, api.EvCall, 1, api.OK}, forward{1000, api.EvStmt, 1, api.OK}, forward{1000, api.EvSet, 3, api.OK})
		shows(t, e, 3, 5, "", running)
		if last, some := e.Last(); !some || last.Name != "x" || last.Value != (api.Value{Kind: api.ValInt, Int: 2}) {
			t.Errorf("the third event: %+v", last)
		}
		goes(t, e, forward{1000, api.EvStmt, 1, api.OK}, forward{1000, api.EvStmt, 3, api.OK})
		shows(t, e, 5, 9, "2\n", running)
		goes(t, e, forward{3, 0, 3, api.ErrBudget})
		shows(t, e, 5, 9, "2\n", running)
		goes(t, e, forward{4, api.EvEnter, 4, api.OK}, forward{1000, api.EvExit, 1, api.OK}, forward{4, 0, 4, api.ErrBudget}, forward{5, api.EvEnter, 5, api.OK})
		goesBack(t, e, 9, api.ErrRange, 0)
		goesBack(t, e, -1, api.ErrRange, 0)
		shows(t, e, 8, 19, "2\n", running)
		goesBack(t, e, 4, api.OK, row.back4)
		shows(t, e, 4, 6, "", running)
		if f := e.Frames(); len(f) != 1 || len(f[0].Vars) != 1 || f[0].Vars[0].Var.Name != "x" || f[0].Vars[0].Value.Int != 2 || e.table[3].Node != f[0].Node {
			t.Errorf("Frames = %+v", f)
		}
		for at, kind := range map[int]api.EventKind{8: api.EvEnter, 7: api.EvExit, 1: api.EvCall} {
			if event, errno := e.Seen(at); event.Kind != kind || errno != api.OK {
				t.Errorf("Seen(%d) = %+v, %d", at, event, errno)
			}
		}
		for _, at := range []int{9, 0, -1} {
			if event, errno := e.Seen(at); event != (api.Event{}) || errno != api.ErrRange {
				t.Errorf("Seen(%d) = %+v, %d", at, event, errno)
			}
		}
		goesBack(t, e, 0, api.OK, 0)
		goes(t, e, forward{1, api.EvCall, 1, api.OK}, forward{1000001, 0, 0, api.ErrSize})
		shows(t, e, 1, 1, "", running)
	}
}

// P21.3, P21.4: the chapter's runs that end.
func TestExampleEnds(t *testing.T) {
	for _, every := range []int{0, 1, 2, 3} {
		e := engineOf(t, "fn main() { }", every)
		goes(t, e, forward{9, api.EvCall, 1, api.OK}, forward{9, api.EvLeave, 1, api.OK}, forward{0, 0, 0, api.ErrBudget}, forward{1, 0, 1, api.ErrOver})
		shows(t, e, 2, 3, "", api.Outcome{Phase: api.Ended})
		goes(t, e, forward{9, 0, 0, api.ErrOver})
		goesBack(t, e, 2, api.OK, 2)
		shows(t, e, 2, 2, "", api.Outcome{})
		goes(t, e, forward{1, 0, 1, api.ErrOver})
		e = engineOf(t, "fn main() { var x: int = 1 / 0; }", every)
		goes(t, e, forward{9, api.EvCall, 1, api.OK}, forward{9, api.EvStmt, 1, api.OK}, forward{9, 0, 3, api.ErrOver})
		shows(t, e, 2, 5, "", api.Outcome{Phase: api.Trapped, Trap: api.TrapDivide})
		if f := e.Frames(); len(f) != 1 || f[0].Func != 0 {
			t.Errorf("Frames = %+v", f)
		}
	}
}

// P21.6: the chapter's 64 states and one more.
func TestExampleKept(t *testing.T) {
	r := plainly(t, endless, enough, 70)
	p := r.pair(t, 1)
	for p.plain.at < 64 {
		p.forward(9)
	}
	goesBack(t, p.engine, 63, api.OK, 0)
	p.plain.back(63)
	p.forward(9)
	p.forward(9)
	goesBack(t, p.engine, 63, api.OK, r.marks[63]-r.marks[62])
	p.plain.back(63)
	p.stands()
}
