package travel

import (
	"math"
	"slices"
	"testing"

	"retrace/api"
)

// keptPositions are those of the states that an engine keeps.
func keptPositions(e *Engine) []int {
	list := []int{e.start.Count()}
	for n := range e.kept {
		list = append(list, e.kept[n].Count())
	}
	return list
}

// P21.6: which positions are kept, as far as the gap doubles some times; those alone, and never more than 64 beside the beginning.
func TestKept(t *testing.T) {
	r := plainly(t, "fn main() { while true { } }", enough, 1400)
	for _, every := range []int{0, 1, 2, 3, 5, 10, 21, 22, 1399, 1400, 1401, math.MaxInt} {
		p := r.pair(t, every)
		most := 0
		for p.plain.at < r.last() {
			p.forward(9)
			var want []int
			for at := range p.plain.at + 1 {
				if p.plain.keptAt(at) == at {
					want = append(want, at)
				}
			}
			if got := keptPositions(p.engine); !slices.Equal(got, want) {
				t.Fatalf("P21.6: every %d, at %d: kept are %v, want %v", every, p.plain.at, got, want)
			}
			most = max(most, len(p.engine.kept))
			if cap(p.engine.kept) > 2*mostKept {
				t.Fatalf("room for %d states", cap(p.engine.kept))
			}
			for n, gone := range p.engine.kept[len(p.engine.kept):cap(p.engine.kept)] {
				if gone.Count() > 0 || gone.machine.Steps() > 0 {
					t.Fatalf("every %d, at %d: what was given up still lies there: %d", every, p.plain.at, n)
				}
			}
		}
		if many := every > 0 && every < 22; many != (most == 64) {
			t.Errorf("P21.6: every %d: at most %d were kept", every, most)
		}
	}
}

// P21.6: what going back costs around the places where the gap doubles.
func TestKeptCosts(t *testing.T) {
	r := plainly(t, endless, enough, 800)
	for _, every := range []int{1, 2, 3, 6} {
		for _, multiples := range []int{1, 2, 63, 64, 65, 66, 127, 128, 129, 130, 131, 256, 257, 258, 260} {
			for _, beside := range []int{-1, 0, 1} {
				far := every*multiples + beside
				if far > 790 || far < 0 {
					continue
				}
				p := r.pair(t, every)
				p.comes(far, false)
				for at := far; at >= max(0, far-40); at-- {
					p.back(at)
				}
				p.comes(far, false)
				p.forward(0)
				p.forward(r.marks[far+1] - r.marks[far] - 1)
				for at := 0; at <= far; at += 7 {
					p.comes(far, false)
					p.back(at)
				}
				p.stands()
			}
		}
	}
}

// P21.6: going on where the engine has been keeps nothing anew, and nothing twice.
func TestKeptOnce(t *testing.T) {
	r := plainly(t, endless, enough, 150)
	p := r.pair(t, 2)
	p.comes(140, false)
	want := keptPositions(p.engine)
	for _, at := range []int{0, 1, 77, 139, 0} {
		p.back(at)
		p.comes(140, false)
		if got := keptPositions(p.engine); !slices.Equal(got, want) || len(p.engine.passed) != 140 {
			t.Fatalf("kept are %v, want %v; %d events", got, want, len(p.engine.passed))
		}
	}
}

// P21.3, P21.8: a run goes on beyond MaxBudget instructions; going back from there is no different.
func TestLongRun(t *testing.T) {
	text := "fn main() { var n: int = 0; while true { n = n + 1; } }"
	// Behind the first three events each turn has four, and twelve instructions.
	for _, every := range []int{0, 1, 1000} {
		e := engineOf(t, text, every)
		for e.Steps() < 1200000 {
			if _, _, errno := e.Forward(12); errno != api.OK {
				t.Fatalf("Forward: %d", errno)
			}
		}
		far, steps := e.At(), e.Steps()
		same := func(at int) {
			t.Helper()
			short := engineOf(t, text, 0)
			for short.At() < at {
				short.Forward(12)
			}
			sameShown(t, e, short)
		}
		for _, at := range []int{far - 1, far / 2, 65, 0} {
			if errno := e.Back(at); errno != api.OK || e.Work() > steps {
				t.Fatalf("Back(%d) = %d, %d", at, errno, e.Work())
			}
			same(at)
			if event, errno := e.Seen(far); event.Kind == 0 || errno != api.OK {
				t.Errorf("Seen(%d) = %+v, %d", far, event, errno)
			}
		}
		if _, errno := e.Seen(far + 1); errno != api.ErrRange {
			t.Errorf("Seen(%d) = %d", far+1, errno)
		}
		for e.At() < far {
			e.Forward(12)
		}
		if e.Steps() != steps || len(e.kept) > 64 {
			t.Errorf("there again: %d steps, %d states", e.Steps(), len(e.kept))
		}
	}
}

// P21.3: an event that is far away, with the least budget that leads there, one less, and the greatest one.
func TestFarEvent(t *testing.T) {
	sum := "1"
	for range 10 {
		sum = "(" + sum + "+" + sum + ")"
	}
	for _, text := range []string{
		"fn main() { var n: int = " + sum + "; print n; }",
		"fn main() { var n: int = 1 / (0 * " + sum + "); }",
		"fn main() { print " + sum + "; }",
	} {
		r := plainly(t, text, enough, 20)
		for _, every := range []int{0, 1, 2} {
			p := r.pair(t, every)
			p.comes(2, false)
			wide := r.end.Steps
			if r.last() > 2 {
				wide = r.marks[3]
			}
			wide -= r.marks[2]
			if wide < 2000 {
				t.Fatalf("only %d instructions", wide)
			}
			for _, budget := range []int{wide - 1, 0, wide - 1, wide} {
				p.forward(budget)
				p.stands()
			}
			for _, budget := range []int{wide + 1, api.MaxBudget} {
				p.back(2)
				p.forward(budget)
				p.stands()
			}
		}
	}
}

// P21.2, P21.4: runs that need all that the limits allow: frames, cells, input.
func TestGreatRuns(t *testing.T) {
	full := api.Limits{Depth: 1000, Cells: 100000}
	numbers := make([]int64, 1000)
	for n := range numbers {
		numbers[n] = int64(n * n)
	}
	for _, r := range []*plainRun{
		plainly(t, "fn f(n: int) { if n < 998 { f(n + 1); } } fn main() { f(0); }", full, 300),
		plainly(t, "fn main() { var l: [text] = new text[99990]; var m: [int] = new int[8]; l[99989] = \"end\"; m = new int[1]; }", full, 20),
		plainly(t, "fn main() { var n: int = 0; while true { read n; } }", full, 400, numbers...),
	} {
		p := r.pair(t, 50)
		for r.isKnown(p.plain.at) && !p.plain.over {
			p.forward(api.MaxBudget)
		}
		p.stands()
		for _, at := range []int{r.last(), r.last() - 1, r.last() / 2, 1, 0} {
			p.back(at)
			p.stands()
		}
	}
}

// P21.3, P21.9: a run of a thousand frames, to its end and back.
func TestThousandFrames(t *testing.T) {
	r := plainly(t, "fn f(n: int) { f(n + 1); } fn main() { f(0); }", api.Limits{Depth: 1000}, 1)
	e, errno := New(r.built, nil, api.Limits{Depth: 1000}, 100)
	if errno != api.OK {
		t.Fatal(errno)
	}
	for errno == api.OK {
		_, _, errno = e.Forward(20)
	}
	if got := e.Result(); errno != api.ErrOver || got.Outcome != (api.Outcome{Phase: api.Trapped, Trap: api.TrapDepth}) || len(e.Frames()) != 1000 {
		t.Errorf("%d, %+v, %d frames", errno, got.Outcome, len(e.Frames()))
	}
	if errno := e.Back(e.At() / 2); errno != api.OK || len(e.Frames()) < 490 || len(e.Frames()) > 510 {
		t.Errorf("Back = %d, %d frames", errno, len(e.Frames()))
	}
}
