package monitor

import (
	"testing"

	"retrace/api"
	"retrace/events"
)

// DOC.md's source.
const adding = `fn add(a: int, b: int): int {
  return a + b;
}
fn main() {
  var x: int = 2;
  read x;
  var a: [int] = new int[x];
  a[1] = add(x, 40);
  print x, a[1], "ok";
}
`

func built(t testing.TB, text string) events.Built {
	t.Helper()
	b, problem := events.Build(text)
	if problem.Code != api.OK {
		t.Fatalf("%q: %+v", text, problem)
	}
	return b
}

func monitorOf(t testing.TB, text string, budget int, input ...int64) *Monitor {
	t.Helper()
	m, errno := New(built(t, text), input, enough, budget)
	if errno != api.OK {
		t.Fatalf("New: %d", errno)
	}
	return m
}

// moved is a command with its answer.
type moved struct {
	kind  api.CommandKind
	n     int
	stop  api.StopKind
	at    int
	point int
	errno api.Errno
}

func goes(t *testing.T, m *Monitor, rows ...moved) {
	t.Helper()
	for n, row := range rows {
		before := m.At()
		stop, errno := m.Move(api.Command{Kind: row.kind, N: row.n})
		if want := (api.Stop{Kind: row.stop, At: row.at, Point: row.point}); stop != want || errno != row.errno {
			t.Errorf("row %d, %+v: %+v, %d", n+1, row, stop, errno)
		}
		stands := row.at
		if row.errno != api.OK && row.errno != api.ErrBudget {
			stands = before
		}
		if m.At() != stands {
			t.Errorf("row %d, %+v: it stands at %d", n+1, row, m.At())
		}
	}
}

func sets(t *testing.T, m *Monitor, c api.Command, want int, wantErrno api.Errno) {
	t.Helper()
	if n, errno := m.Set(c); n != want || errno != wantErrno {
		t.Errorf("P22.7: Set(%+v) = %d, %d, want %d, %d", c, n, errno, want, wantErrno)
	}
}

func onLine(line int, cond string) api.Point {
	return api.Point{Kind: api.PtLine, Line: line, Cond: cond}
}

func onCall(name, cond string) api.Point {
	return api.Point{Kind: api.PtFunc, Name: name, Cond: cond}
}

func onChange(name, cond string) api.Point {
	return api.Point{Kind: api.PtWatch, Name: name, Cond: cond}
}

// P22.2 to P22.7: the chapter's table, one row behind the other.
func TestExamples(t *testing.T) {
	m := monitorOf(t, adding, 1000, 3)
	goes(t, m, moved{api.CmStep, 0, api.StopStep, 2, 0, api.OK}, moved{api.CmStep, 0, api.StopStep, 4, 0, api.OK}, moved{api.CmStep, 0, api.StopStep, 6, 0, api.OK})
	goes(t, m, moved{api.CmStep, 0, api.StopStep, 8, 0, api.OK}, moved{api.CmNext, 0, api.StopStep, 15, 0, api.OK})
	goes(t, m, moved{api.CmBack, 0, api.StopStep, 14, 0, api.OK}, moved{api.CmRnext, 0, api.StopStep, 8, 0, api.OK}, moved{api.CmRnext, 0, api.StopStep, 6, 0, api.OK})
	sets(t, m, api.Command{Kind: api.CmBreak, Point: onLine(2, "")}, 1, api.OK)
	goes(t, m, moved{api.CmContinue, 0, api.StopPoint, 12, 1, api.OK}, moved{api.CmFinish, 0, api.StopStep, 13, 0, api.OK}, moved{api.CmFinish, 0, api.StopStep, 16, 0, api.OK})
	goes(t, m, moved{api.CmContinue, 0, api.StopEnd, 16, 0, api.OK}, moved{api.CmContinue, 0, 0, 0, 0, api.ErrOver}, moved{api.CmBack, 0, api.StopStep, 16, 0, api.OK})
	goes(t, m, moved{api.CmRcontinue, 0, api.StopPoint, 12, 1, api.OK}, moved{api.CmRcontinue, 0, api.StopStart, 0, 0, api.OK}, moved{api.CmRcontinue, 0, 0, 0, 0, api.ErrStart})
	sets(t, m, api.Command{Kind: api.CmWatch, Point: onChange("x", "")}, 2, api.OK)
	goes(t, m, moved{api.CmContinue, 0, api.StopPoint, 3, 2, api.OK}, moved{api.CmContinue, 0, api.StopPoint, 5, 2, api.OK}, moved{api.CmRfinish, 0, api.StopStart, 0, 0, api.OK})
	goes(t, m, moved{api.CmGoto, 13, api.StopGoto, 13, 0, api.OK}, moved{api.CmGoto, -5, api.StopGoto, 0, 0, api.OK}, moved{api.CmGoto, 99, api.StopEnd, 16, 0, api.OK}, moved{api.CmGoto, 99, 0, 0, 0, api.ErrOver})
	sets(t, m, api.Command{Kind: api.CmBreak, Point: onCall("add", "")}, 3, api.OK)
	goes(t, m, moved{api.CmGoto, 9, api.StopGoto, 9, 0, api.OK}, moved{api.CmContinue, 0, api.StopPoint, 11, 3, api.OK})
	m = monitorOf(t, adding, 3, 3)
	goes(t, m, moved{api.CmStep, 0, api.StopStep, 2, 0, api.OK}, moved{api.CmStep, 0, api.StopBudget, 3, 0, api.ErrBudget}, moved{api.CmStep, 0, api.StopStep, 4, 0, api.OK})
	if _, errno := m.Move(api.Command{Kind: api.CmBreak, Point: onLine(2, "")}); errno != api.ErrArg {
		t.Errorf("Move of CmBreak: %d", errno)
	}
	goes(t, m, moved{api.CmStep, 1, 0, 0, 0, api.ErrArg})
	sets(t, m, api.Command{Kind: api.CmBreak, Point: onChange("x", "")}, 0, api.ErrArg)
	sets(t, m, api.Command{Kind: api.CmDelete, N: 9}, 0, api.ErrPoint)
}

// DOC.md's examples 7 to 10 of the whole.
func TestWholeExamples(t *testing.T) {
	m := monitorOf(t, adding, 1000, 3)
	sets(t, m, api.Command{Kind: api.CmBreak, Point: onLine(2, "")}, 1, api.OK)
	goes(t, m, moved{api.CmContinue, 0, api.StopPoint, 12, 1, api.OK})
	if f := m.Frames(); len(f) != 2 || f[0].Func != 0 || f[1].Func != 1 || len(f[0].Vars) != 2 || f[0].Vars[0].Value.Int+f[0].Vars[1].Value.Int != 43 {
		t.Errorf("P22.8: Frames = %+v", f)
	}
	goes(t, m, moved{api.CmBack, 0, api.StopStep, 11, 0, api.OK}, moved{api.CmGoto, 12, api.StopGoto, 12, 0, api.OK}, moved{api.CmRcontinue, 0, api.StopStart, 0, 0, api.OK})
	sets(t, m, api.Command{Kind: api.CmWatch, Point: onChange("x", "")}, 2, api.OK)
	goes(t, m, moved{api.CmContinue, 0, api.StopPoint, 3, 2, api.OK}, moved{api.CmContinue, 0, api.StopPoint, 5, 2, api.OK})
	for at := range 17 {
		goes(t, m, moved{api.CmGoto, at, api.StopGoto, at, 0, api.OK}, moved{api.CmGoto, 16, api.StopGoto, 16, 0, api.OK})
		goes(t, m, moved{api.CmGoto, at, api.StopGoto, at, 0, api.OK}, moved{api.CmGoto, 99, api.StopEnd, 16, 0, api.OK})
		if r := m.Result(); r.Outcome.Phase != api.Ended || r.Output != "3 43 ok\n" {
			t.Errorf("P22.8: Result = %+v", r)
		}
	}
}

// P22.3 to P22.5: where a run has ended there is no frame, and a command begins with the depth 1; where it has trapped the frames are there.
func TestEndDepth(t *testing.T) {
	m := monitorOf(t, adding, 1000, 3)
	goes(t, m, moved{api.CmFinish, 0, api.StopStep, 16, 0, api.OK}, moved{api.CmFinish, 0, api.StopEnd, 16, 0, api.OK}, moved{api.CmRfinish, 0, api.StopStep, 16, 0, api.OK}, moved{api.CmRfinish, 0, api.StopStart, 0, 0, api.OK})
	goes(t, m, moved{api.CmContinue, 0, api.StopEnd, 16, 0, api.OK}, moved{api.CmRnext, 0, api.StopStep, 15, 0, api.OK}, moved{api.CmRnext, 0, api.StopStep, 8, 0, api.OK})
	deep := monitorOf(t, "fn f(n: int) { f(n / (2 - n)); } fn main() { f(1); }", 1000)
	// call main, stmt, call f, set n = 1, stmt, call f, set n = 1 and so on, up to twelve frames.
	goes(t, deep, moved{api.CmContinue, 0, api.StopEnd, 35, 0, api.OK})
	if len(deep.Frames()) != 12 || deep.Result().Outcome.Trap != api.TrapDepth {
		t.Errorf("%d frames, %+v", len(deep.Frames()), deep.Result().Outcome)
	}
	goes(t, deep, moved{api.CmRnext, 0, api.StopStep, 35, 0, api.OK}, moved{api.CmGoto, 99, api.StopEnd, 35, 0, api.OK}, moved{api.CmRfinish, 0, api.StopStep, 32, 0, api.OK}, moved{api.CmRfinish, 0, api.StopStep, 29, 0, api.OK})
}

// P22.3, P22.5: a condition sees what the innermost frame sees, and the arrays as they are at the position, however they are reached.
func TestConditions(t *testing.T) {
	r := plainly(t, "fn fill(list: [int], last: int) {\nfor k = 0 to last {\nlist[k] = k * k; } }\nfn main() {\nfill(new int[4], 3);\nvar grid: [[int]] = new [int][2];\ngrid[1] = new int[3];\nfill(grid[1], 2);\nvar other: [int] = grid[1];\ngrid[1][0] = 7;\nprint other[0]; }", enough, 200)
	for n, row := range []struct {
		point api.Point
		meets int // how many positions
	}{
		{onChange("list", "list[2] == 4"), 3}, {onChange("list", "k == 2 && list[k] == 4"), 2}, {onLine(3, "list[k] == 0"), 7}, {onLine(3, "k > 0 && list[k - 1] == (k - 1) * (k - 1)"), 5}, {onCall("fill", "len(list) == 3"), 1}, {onCall("fill", "len(list) == 5"), 0},
		{onLine(11, "other[0] == 7"), 1}, {onLine(11, "other == grid[1] && grid[1] != grid[0]"), 1}, {onLine(10, "other[0] == 7"), 0}, {onChange("grid", "len(grid[1]) == 0"), 1}, {onChange("grid", "len(grid[1]) == 3"), 2}, {onChange("grid", "list[0] == 0"), 0}, {onLine(3, "len(grid) == 2"), 0},
	} {
		p := r.known(t, []api.Point{row.point}, 0, false)
		met := 0
		for p.does(api.CmContinue).stop.Kind == api.StopPoint {
			met++
			p.stands()
		}
		for p.does(api.CmRcontinue).stop.Kind == api.StopPoint {
			met--
			p.stands()
		}
		if met != 0 {
			t.Errorf("P22.10: row %d: %d times more forward than back", n+1, met)
		}
		for p.does(api.CmContinue).stop.Kind == api.StopPoint {
			met++
		}
		if met != row.meets {
			t.Errorf("row %d: %d times, want %d", n+1, met, row.meets)
		}
	}
}
