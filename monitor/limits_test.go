package monitor

import (
	"math"
	"strings"
	"testing"

	"retrace/api"
)

// P22.7: MaxPoints points, and one more; those that are gone make room, and numbers are not given again.
func TestMostPoints(t *testing.T) {
	p := plainly(t, adding, enough, 20, 3).pair(t, 1000)
	for n := 1; n <= api.MaxPoints; n++ {
		if got, errno := p.sets(api.Command{Kind: api.CmBreak, Point: onLine(20+n, "")}); got != n || errno != api.OK {
			t.Fatalf("P22.7: point %d: %d, %d", n, got, errno)
		}
	}
	for _, c := range []api.Command{{Kind: api.CmBreak, Point: onLine(2, "")}, {Kind: api.CmWatch, Point: onChange("x", "")}} {
		if got, errno := p.sets(c); got != 0 || errno != api.ErrSize {
			t.Errorf("P22.7: one more: %d, %d", got, errno)
		}
	}
	p.sets(api.Command{Kind: api.CmDelete, N: 7})
	if got, errno := p.sets(api.Command{Kind: api.CmWatch, Point: onChange("x", "x == 3")}); got != 33 || errno != api.OK {
		t.Errorf("P22.7: in its place: %d, %d", got, errno)
	}
	p.sets(api.Command{Kind: api.CmDelete, N: 33})
	p.sets(api.Command{Kind: api.CmWatch, Point: onChange("x", "x == 3")})
	if told := p.does(api.CmContinue); told.stop != (api.Stop{Kind: api.StopPoint, At: 5, Point: 34}) {
		t.Errorf("%+v", told)
	}
	p.stands()
}

// P22.7: numbers of all sizes.
func TestPointNumbers(t *testing.T) {
	p := plainly(t, adding, enough, 20, 3).pair(t, 1000)
	p.adds(onLine(2, ""))
	p.adds(onLine(5, ""))
	for _, n := range []int{math.MinInt, -1, 0, 3, 32, 33, math.MaxInt} {
		for _, kind := range []api.CommandKind{api.CmDelete, api.CmEnable, api.CmDisable} {
			if got, errno := p.sets(api.Command{Kind: kind, N: n}); got != 0 || errno != api.ErrPoint {
				t.Errorf("P22.7: %d of %d: %d, %d", kind, n, got, errno)
			}
			p.hasPoints()
		}
	}
	for _, kind := range []api.CommandKind{api.CmDisable, api.CmDisable, api.CmEnable, api.CmEnable, api.CmDelete} {
		if got, errno := p.sets(api.Command{Kind: kind, N: 2}); got != 2 || errno != api.OK {
			t.Errorf("P22.7: %d of 2: %d, %d", kind, got, errno)
		}
		p.hasPoints()
	}
}

// P22.6: positions of all sizes.
func TestGotoNumbers(t *testing.T) {
	for _, r := range []*plainRun{plainly(t, adding, enough, 100, 3), plainly(t, adding, enough, 100, 1)} {
		for _, budget := range []int{0, 5, 1000} {
			p := r.pair(t, budget)
			for range 12 {
				here, over := p.plain.at, p.plain.over
				for _, n := range []int{math.MinInt, math.MinInt32, -1, 99, math.MaxInt32, math.MaxInt} {
					p.goesTo(n)
					p.stands()
					if budget > 0 {
						p.comes(here, over)
					}
				}
				p.does(api.CmStep)
			}
		}
	}
}

// P22.1, P22.3: budgets up to MaxBudget; the greatest leads so many instructions far, and one less does not. A command more goes on from there.
func TestGreatestBudget(t *testing.T) {
	// Each turn has four events, and as many instructions as any other: so the marks of the first ones tell all of them.
	text := "fn main() { var n: int = 0; while true { n = n + 1; } }"
	r := plainly(t, text, enough, 400)
	first, turn := r.marks[100], r.marks[104]-r.marks[100]
	mark := func(at int) int { return first + (at-100)/4*turn + r.marks[100+(at-100)%4] - r.marks[100] }
	if mark(399) != r.marks[399] {
		t.Fatalf("the marks are %v", r.marks)
	}
	for _, budget := range []int{api.MaxBudget, api.MaxBudget - 1, api.MaxBudget - 7} {
		m, errno := New(r.built, nil, enough, budget)
		if errno != api.OK {
			t.Fatalf("P22.1: %d", errno)
		}
		at := 100
		for mark(at+1) <= budget {
			at++
		}
		goes(t, m, moved{api.CmContinue, 0, api.StopBudget, at, 0, api.ErrBudget})
		if got := m.Result().Steps; got != mark(at) {
			t.Errorf("P22.3: %d instructions, want %d", got, mark(at))
		}
		// From there as many instructions again lead on: longer than the run from its beginning.
		from := at
		for mark(at+1)-mark(from) <= budget {
			at++
		}
		goes(t, m, moved{api.CmFinish, 0, api.StopBudget, at, 0, api.ErrBudget}, moved{api.CmBack, 0, api.StopStep, at - 1, 0, api.OK})
		if got := m.Result().Steps; got != mark(at-1) {
			t.Errorf("P22.4: %d instructions, want %d", got, mark(at-1))
		}
	}
}

// P22.5, P22.9: in a run that is longer than what is kept of it or looked at at once, far ways back.
func TestFarBack(t *testing.T) {
	text := "fn f(n: int): int {\nif n < 1 { return 0; }\nreturn f(n - 1); }\nfn main() { var n: int = 0; var l: [int] = new int[3];\nfor i = 1 to 900 {\nl[0] = i;\nf(i % 4);\nn = i; } }"
	r := plainly(t, text, enough, 30000)
	if !r.ends || r.last() < 2*keepEvery {
		t.Fatalf("%d events", r.last())
	}
	for _, point := range []api.Point{onLine(6, "i == 1"), onLine(6, "i == 899"), onLine(6, "i % 300 == 7"), onChange("l", "l[0] == 450"), onChange("n", "n == 1 && l[0] == 1"), onCall("main", ""), onCall("f", "n > 3"), onLine(4, ""), onLine(2, "n == 3"), onChange("q", "")} {
		p := r.pair(t, api.MaxBudget)
		p.adds(point)
		p.comes(r.last(), true)
		for range 5 {
			p.does(api.CmRcontinue)
		}
		p.stands()
		p.comes(r.last(), false)
		p.does(api.CmRcontinue)
		p.stands()
	}
	p := r.pair(t, api.MaxBudget)
	p.comes(r.last(), true)
	for _, kind := range []api.CommandKind{api.CmRfinish, api.CmRnext, api.CmRnext, api.CmBack, api.CmRnext, api.CmRfinish} {
		p.does(kind)
		p.stands()
	}
	for _, at := range []int{keepEvery + 1, keepEvery, keepEvery - 1, 2*keepEvery + 1, firstPiece, firstPiece + 1} {
		p.goesTo(at)
		p.stands()
		p.does(api.CmRnext)
		p.does(api.CmNext)
		p.stands()
	}
}

// P22.5: a point in each distance around the lengths of the pieces that are looked at.
func TestEveryDistance(t *testing.T) {
	r := plainly(t, "fn main() { var n: int = 0; while true { n = n + 1; } }", enough, 1200)
	for _, from := range []int{300, 900, 1190} {
		p := r.pair(t, api.MaxBudget)
		p.adds(onChange("n", "n == 0"))
		for target := 3; target < from-1; target += 4 {
			if target < from-260 && target%20 != 3 {
				continue
			}
			n := r.events[target-1].Value.Int
			p.sets(api.Command{Kind: api.CmDelete, N: p.plain.table.Numbers()[0]})
			p.adds(onChange("n", "n == "+decimal(n)))
			p.comes(from, false)
			if told := p.does(api.CmRcontinue); told.stop.At != target {
				t.Fatalf("%d: %+v", target, told)
			}
		}
		p.stands()
	}
}

func decimal(n int64) string {
	if n < 10 {
		return string(rune('0' + n))
	}
	return decimal(n/10) + string(rune('0'+n%10))
}

// P22.3, P22.5: thousands of instructions lie between two events, forward and back, with budgets around their number.
func TestFarEvents(t *testing.T) {
	sum := "1"
	for range 10 {
		sum = "(" + sum + "+" + sum + ")"
	}
	r := plainly(t, "fn main() { var n: int = 1;\nn = "+sum+";\nprint n;\nn = 3; }", enough, 20)
	wide := r.marks[5] - r.marks[4]
	if !r.ends || wide < 2000 {
		t.Fatalf("only %d instructions", wide)
	}
	for _, budget := range []int{wide - 1, wide, wide + 1, api.MaxBudget} {
		p := r.pair(t, budget)
		p.adds(onLine(4, "n == 1024"))
		p.adds(onChange("n", "n == 1"))
		for range 3 {
			for _, kind := range []api.CommandKind{api.CmStep, api.CmStep, api.CmFinish, api.CmNext, api.CmContinue, api.CmRcontinue, api.CmRcontinue, api.CmContinue, api.CmContinue, api.CmContinue, api.CmRcontinue, api.CmBack} {
				p.does(kind)
				p.stands()
			}
		}
	}
}

// P22.3 to P22.5: a thousand frames, and the depth told by them.
func TestThousandFrames(t *testing.T) {
	r := plainly(t, "fn f(n: int) {\nif n < 998 { f(n + 1); } }\nfn main() { f(0); }", api.Limits{Depth: 1000}, 8000)
	if !r.ends || r.end.Outcome.Phase != api.Ended {
		t.Fatalf("%+v", r.end.Outcome)
	}
	p := r.pair(t, api.MaxBudget)
	p.adds(onLine(2, "n == 998"))
	p.does(api.CmContinue)
	if len(p.monitor.Frames()) != 1000 {
		t.Errorf("%d frames", len(p.monitor.Frames()))
	}
	p.sets(api.Command{Kind: api.CmDelete, N: 1})
	for _, kind := range []api.CommandKind{api.CmNext, api.CmRfinish, api.CmRfinish, api.CmRnext, api.CmFinish, api.CmNext, api.CmBack, api.CmRnext, api.CmContinue, api.CmRnext, api.CmRcontinue, api.CmFinish} {
		p.does(kind)
		p.stands()
	}
}

// P22.3, P22.7: conditions as long as may be, and one byte longer; the arrays that they name as great as may be.
func TestGreatConditions(t *testing.T) {
	r := plainly(t, "fn main() { var big: [[text]] = new [text][2]; big[1] = new text[99900]; for i = 1 to 3 { big[1][99899] = str(i); } }", api.Limits{Depth: 1, Cells: 100000}, 40)
	if !r.ends || r.end.Outcome.Phase != api.Ended {
		t.Fatalf("%+v", r.end.Outcome)
	}
	p := r.pair(t, 1000)
	condition := "big[1][99899] == \"2\""
	for _, length := range []int{api.MaxLine + 1, api.MaxLine} {
		p.adds(onChange("big", condition+strings.Repeat(" ", length-len(condition))))
	}
	told := p.does(api.CmContinue)
	if told.stop.Kind != api.StopPoint || told.stop.Point != 1 {
		t.Errorf("%+v", told)
	}
	p.stands()
	p.does(api.CmContinue)
	if back := p.does(api.CmRcontinue); back != told {
		t.Errorf("%+v, want %+v", back, told)
	}
}
