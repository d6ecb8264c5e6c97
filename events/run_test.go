package events

import (
	"math"
	"slices"
	"strconv"
	"strings"
	"testing"

	"retrace/api"
	"retrace/vm"
)

// refuses asks that neither Run nor Marks is done.
func refuses(t *testing.T, what string, p Built, input []int64, l api.Limits, steps int, want api.Errno) {
	t.Helper()
	run, errno := Run(p, input, l, steps)
	marks, other := Marks(p, input, l, steps)
	if errno != want || other != want || !sameRun(run, api.Run{}) || run.Arrays != nil || len(marks) != 0 {
		t.Errorf("%s: %d, %d, want %d; %v, %v", what, errno, other, want, run, marks)
	}
}

// takes asks that both are.
func takes(t *testing.T, what string, p Built, input []int64, l api.Limits, steps int) {
	t.Helper()
	_, errno := Run(p, input, l, steps)
	if _, other := Marks(p, input, l, steps); errno != api.OK || other != api.OK {
		t.Errorf("%s: %d, %d", what, errno, other)
	}
}

// P17.3, P17.4: which inputs, limits and numbers of instructions are taken, at their edges, and which error is told where several apply.
func TestWhatMayBeRun(t *testing.T) {
	p := built(t, ten)
	long := make([]int64, api.MaxInput+1)
	for _, l := range []api.Limits{{Depth: 1}, {Depth: 1, Cells: 100000}, {Depth: 1000}, {Depth: 1000, Cells: 100000}} {
		for _, steps := range []int{math.MinInt, -1, 0, 1, 999999, 1000000} {
			for _, input := range [][]int64{nil, {}, {3}, long[:999], long[:1000]} {
				takes(t, "at the edge", p, input, l, steps)
			}
		}
		for _, steps := range []int{1000001, 1000002, 1 << 40, math.MaxInt} {
			refuses(t, "too many instructions", p, []int64{3}, l, steps, api.ErrSize)
			refuses(t, "and no built program", Built{}, []int64{3}, l, steps, api.ErrArg)
			refuses(t, "and a long input", p, long, l, steps, api.ErrArg)
		}
		refuses(t, "a long input", p, long, l, 10, api.ErrArg)
		refuses(t, "no built program", Built{}, nil, l, 10, api.ErrArg)
	}
	for _, l := range []api.Limits{{}, {Depth: 0, Cells: 5}, {Depth: -1}, {Depth: 1001}, {Depth: 1, Cells: -1}, {Depth: 1, Cells: 100001}, {Depth: math.MaxInt}, {Depth: math.MinInt}, {Depth: 1, Cells: math.MinInt}, {Depth: 1, Cells: math.MaxInt}} {
		for _, steps := range []int{-1, 0, 10, 1000000, 1000001} {
			refuses(t, "limits that may not be", p, nil, l, steps, api.ErrArg)
			refuses(t, "and no built program", Built{}, nil, l, steps, api.ErrArg)
		}
	}
}

// P17.3: a number of instructions below 0 counts as 0.
func TestNoInstructions(t *testing.T) {
	g := grown{built(t, ten), []int64{3}, wide}
	for _, steps := range []int{math.MinInt, math.MinInt + 1, -1000, -1, 0} {
		run, marks := g.run(t, steps), g.marks(t, steps)
		if !sameRun(run, api.Run{Arrays: [][]api.Value{nil}}) || len(marks) != 0 {
			t.Errorf("%d instructions: %v, %v", steps, run, marks)
		}
	}
}

// stepped is a run told a second time: the machine does step by step, and each yield's row is looked up by hand.
type stepped struct {
	runs  []api.Run // behind so many instructions, up to the end or to as many as were wanted
	marks []int
}

func (g grown) stepped(t *testing.T, most int) stepped {
	t.Helper()
	m, errno := vm.New(g.Code, g.input, g.limits)
	if errno != api.OK {
		t.Fatal(errno)
	}
	s := stepped{runs: []api.Run{m.Result()}}
	var events []api.Event
	for steps := 1; steps <= most && m.Result().Outcome.Phase == api.Running; steps++ {
		if y, yields := m.Step(); yields {
			row := g.Table[y.Hook-1]
			events = append(events, api.Event{Kind: row.Kind, Node: row.Node, Name: row.Name, Value: y.Value})
			s.marks = append(s.marks, steps)
		}
		run := m.Result()
		run.Events = slices.Clone(events)
		s.runs = append(s.runs, run)
	}
	return s
}

// P17.3, P17.4, P17.6, P17.7: stopped behind every instruction.
func TestStopped(t *testing.T) {
	for seed := range seeds(40) {
		g := grow(t, seed)
		s := g.stepped(t, 200)
		last := api.Run{}
		for steps := range len(s.runs) + 3 {
			want := s.runs[min(steps, len(s.runs)-1)]
			if steps > 200 {
				break
			}
			run, marks := g.run(t, steps), g.marks(t, steps)
			if !sameRun(run, want) {
				t.Fatalf("%s, %v, %v: behind %d instructions %v, want %v", g.Program.Text, g.input, g.limits, steps, run, want)
			}
			if !slices.Equal(marks, s.marks[:len(run.Events)]) {
				t.Fatalf("%s, %v, %v: behind %d instructions %v, want %v", g.Program.Text, g.input, g.limits, steps, marks, s.marks)
			}
			if !begins(last.Events, run.Events) || !strings.HasPrefix(run.Output, last.Output) || run.Input < last.Input {
				t.Fatalf("%s, %v, %v: the run of %d instructions does not add to the one before: %v, %v", g.Program.Text, g.input, g.limits, steps, last, run)
			}
			last = run
		}
	}
}

// P17.6: marks rise strictly from 1 on, and a run up to a mark has just the events up to it.
func TestMarks(t *testing.T) {
	for seed := range seeds(250) {
		g := grow(t, 1000+seed)
		steps := 1 + int(seed)*3
		run, marks := g.run(t, steps), g.marks(t, steps)
		if len(marks) != len(run.Events) || len(marks) == 0 || marks[0] != 1 || marks[len(marks)-1] > steps {
			t.Fatalf("%s: %d marks, %d events", g.Program.Text, len(marks), len(run.Events))
		}
		for n, mark := range marks {
			if n > 0 && mark <= marks[n-1] {
				t.Fatalf("%s: the marks %v", g.Program.Text, marks)
			}
		}
		// All of them would take long.
		for n := int(seed) % 9; n < len(marks); n += 1 + len(marks)/4 {
			at, ahead := g.run(t, marks[n]), g.run(t, marks[n]-1)
			if !slices.Equal(at.Events, run.Events[:n+1]) || !slices.Equal(ahead.Events, run.Events[:n]) {
				t.Fatalf("%s: event %d comes at %d; %v, %v", g.Program.Text, n+1, marks[n], at, ahead)
			}
		}
	}
}

// P17.7: a run that has come to its end is the same with any more instructions.
func TestBehindTheEnd(t *testing.T) {
	over := 0
	for seed := range seeds(250) {
		g := grow(t, 2000+seed)
		run := g.run(t, 3000)
		if run.Outcome.Phase == api.Running {
			continue
		}
		over++
		marks := g.marks(t, 3000)
		for _, steps := range []int{run.Steps, run.Steps + 1, 4000, 1000000} {
			if again := g.run(t, steps); !sameRun(again, run) || !slices.Equal(g.marks(t, steps), marks) {
				t.Fatalf("%s: with %d instructions %v, want %v", g.Program.Text, steps, again, run)
			}
		}
		if one := g.run(t, run.Steps-1); one.Outcome.Phase != api.Running || one.Steps != run.Steps-1 {
			t.Fatalf("%s: one instruction ahead of its end: %v", g.Program.Text, one)
		}
	}
	if over < int(seeds(80)) {
		t.Errorf("only %d runs came to their end", over)
	}
}

// P17.3, P17.4: as many instructions as may be, in runs that have no end.
func TestLongest(t *testing.T) {
	for text, each := range map[string]int{ // how many instructions a turn takes
		"fn main() { while true { } }":                                      6,
		"fn main() { var x: int = 0; while true { x = x + 1; } }":           12,
		"fn main() { for i = 1 to 9223372036854775807 { } }":                15,
		"fn f(t: text) { } fn main() { while true { f(\"some\"); } }":       13,
		"fn main() { var a: [int] = new int[1]; while true { a[0] = 2; } }": 12,
	} {
		g := grown{built(t, text), nil, wide}
		for _, steps := range []int{999999, 1000000} {
			run, marks := g.run(t, steps), g.marks(t, steps)
			if run.Outcome != (api.Outcome{}) || run.Steps != steps || len(marks) != len(run.Events) || !slices.IsSorted(marks) {
				t.Errorf("%s: %v behind %d steps, %d events, %d marks", text, run.Outcome, run.Steps, len(run.Events), len(marks))
			}
			last := marks[len(marks)-1]
			turns := 0
			for _, e := range run.Events {
				if e.Kind == api.EvEnter {
					turns++
				}
			}
			if last > steps || last <= steps-each || turns*each > steps+each || turns*each < steps-3*each {
				t.Errorf("%s: the last event comes at %d, with %d turns", text, last, turns)
			}
		}
	}
}

// P17.3: as many frames, cells and numbers as may be, and one more of each.
func TestGreatRuns(t *testing.T) {
	p := built(t, "fn f(n: int) { if n > 1 { f(n - 1); } } fn main() { var n: int = 0; read n; f(n); }")
	for _, depth := range []int{2, 3, 999, 1000} {
		for more, want := range []api.Outcome{ended(), trapped(api.TrapDepth)} {
			run, _ := Run(p, []int64{int64(depth - 1 + more)}, api.Limits{Depth: depth}, api.MaxBudget)
			if run.Outcome != want || frames(run.Events) != more*depth {
				t.Errorf("%d frames: %v", depth-1+more, run.Outcome)
			}
		}
	}
	p = built(t, "fn main() { var n: int = 0; read n; var a: [bool] = new bool[n]; print len(a); }")
	for _, cells := range []int{1, 2, 99999, 100000} {
		for more, want := range []api.Outcome{ended(), trapped(api.TrapHeap)} {
			run, _ := Run(p, []int64{int64(cells - 1 + more)}, api.Limits{Depth: 1, Cells: cells}, api.MaxBudget)
			if run.Outcome != want || len(run.Arrays) != 2-more || more == 0 && len(run.Arrays[1]) != cells-1 {
				t.Errorf("%d cells: %v", cells+more, run.Outcome)
			}
		}
	}
	p = built(t, "fn main() { var n: int = 0; while true { read n; print n; } }")
	for _, count := range []int{0, 1, 999, 1000} {
		input, want := make([]int64, count), ""
		for n := range input {
			input[n] = int64(n) - 500
			want += strconv.Itoa(n-500) + "\n"
		}
		run, _ := Run(p, input, api.Limits{Depth: 1}, api.MaxBudget)
		if run.Outcome != trapped(api.TrapInput) || run.Input != count || run.Output != want {
			t.Errorf("%d numbers: %v, %d read", count, run.Outcome, run.Input)
		}
	}
}

// P17.1, P17.3: values at their edges come as they are.
func TestEdgeValues(t *testing.T) {
	p := built(t, "fn give(t: text): [text] { return new text[0]; } fn main() { var n: int = -9223372036854775807 - 1; var s: text = \""+strings.Repeat("\\xff", 128)+"\"; s = s + s; var b: bool = n < 0; b = !b; var a: [[text]] = new [text][1]; var e: [text] = a[0]; a[0] = give(s); s = \"\"; s = s + \"\\x00\"; }")
	run, _ := Run(p, nil, wide, 1000)
	var values []api.Value
	for _, e := range run.Events {
		if e.Kind == api.EvSet || e.Kind == api.EvTouch || e.Kind == api.EvReturn {
			values = append(values, e.Value)
		}
	}
	long := strings.Repeat("\xff", 256)
	want := []api.Value{i(math.MinInt64), x(long[:128]), x(long), b(1), b(0), r(1), r(0), x(long), r(2), r(1), x(""), x("\x00")}
	if run.Outcome != ended() || !slices.Equal(values, want) {
		t.Errorf("%v, %v, want %v", run.Outcome, values, want)
	}
}

// The iterator can be left early: what comes behind is not run.
func TestLeftEarly(t *testing.T) {
	p := built(t, ten)
	for wanted := 1; wanted <= 16; wanted++ {
		m, _ := vm.New(p.Code, []int64{3}, wide)
		marks, _ := Marks(p, []int64{3}, wide, 1000)
		count := 0
		for event, mark := range eventsOf(m, p.Table, 1000) {
			count++
			if mark != marks[count-1] || event.Kind == 0 {
				t.Errorf("event %d: %v at %d", count, event, mark)
			}
			if count == wanted {
				break
			}
		}
		if count != wanted || m.Steps() != marks[wanted-1] {
			t.Errorf("%d events, %d steps", count, m.Steps())
		}
	}
}
