package record

import (
	"math"
	"slices"
	"strings"
	"testing"

	"retrace/api"
	"retrace/events"
	"retrace/flow"
	"retrace/vm"
	"retrace/walk"
)

var enough = api.Limits{Depth: 20, Cells: 500}

// ten is the source of the document's ten examples.
const ten = "fn add(a: int, b: int): int {\n  return a + b;\n}\nfn main() {\n  var x: int = 2;\n  read x;\n  var a: [int] = new int[x];\n  a[1] = add(x, 40);\n  print x, a[1], \"ok\";\n}\n"

// sources have, taken together, events of every kind, values of every kind, and every end.
var sources = []string{
	ten,
	"fn main() { }",
	"fn join(left: text, right: text): text { return left + right; } fn main() { var name: text = \"some text\"; var list: [text] = new text[3]; list[0] = name; var count: int = 0; outer: for turn = 1 to 2 { read count; print turn, count, list[turn]; while true { break outer; } } name = join(list[0], \"more\"); print name; }",
	"fn main() { var x: int = 0; var most: int = 9223372036854775807; while true { read x; print x * most, -x - most, x == 3; } }",
	"fn even(n: int): bool { if n == 0 { return true; } return odd(n - 1); } fn odd(n: int): bool { if n == 0 { return false; } return even(n - 1); } fn main() { var b: bool = even(7); print b; b = odd(99); }",
	"fn main() { var all: [[bool]] = new [bool][4]; for i = 0 to 3 { all[i] = new bool[i * 40]; all[i][i] = i < 9; } }",
	"fn main() { var s: text = \"\\xff\\x00\\n\"; while true { s = s + s; print s; } }",
	"fn main() { var n: int = 3; { var n: int = 1; { n = n / (n - 1); } } }",
	"fn main() { var n: int = 0; while true { n = n + 1; { continue; } } }",
	"fn nothing() { return; } fn main() { nothing(); { } if true { } else { } nothing(); }",
}

// stepped is a run for at most so many instructions, told by the machine one by one.
func stepped(t testing.TB, source string, input []int64, l api.Limits, steps int) api.Record {
	t.Helper()
	built, problem := events.Build(source)
	if problem.Code != api.OK {
		t.Fatalf("%q: %+v", source, problem)
	}
	m, errno := vm.New(built.Code, input, l)
	if errno != api.OK {
		t.Fatal(errno)
	}
	var r api.Record
	for range steps {
		if y, yields := m.Step(); yields {
			row := built.Table[y.Hook-1]
			r.Events = append(r.Events, api.Event{Kind: row.Kind, Node: row.Node, Name: row.Name, Value: y.Value})
		}
	}
	run := m.Result()
	r.Outcome, r.Output, r.Input = run.Outcome, run.Output, run.Input
	return r
}

// P25.4: the record of a run, stopped behind any instruction; and it is one that can be kept (P25.5).
func TestOf(t *testing.T) {
	kinds, values, ends := map[api.EventKind]int{}, map[api.ValueKind]int{}, map[api.Outcome]int{}
	for _, source := range sources {
		for _, l := range []api.Limits{enough, {Depth: 1}, {Depth: 3, Cells: 100}} {
			for _, input := range [][]int64{nil, {3}, {math.MinInt64, -1, 3, 1000}} {
				for n := range seeds(120) {
					steps := int(n + n/40*n)
					r, problem := Of(source, input, l, steps)
					if want := stepped(t, source, input, l, steps); problem != (api.Problem{}) || !same(r, want) {
						t.Fatalf("P25.4: %q, %v, %v, %d steps: %s, %+v, want %s", source, input, l, steps, brief(r), problem, brief(want))
					}
					lays(t, r)
					ends[r.Outcome]++
					for _, e := range r.Events {
						kinds[e.Kind]++
						values[e.Value.Kind]++
					}
				}
			}
		}
	}
	if testing.Short() {
		return
	}
	if len(kinds) != 8 || len(values) != 5 || len(ends) != len(outcomes)-1 {
		t.Errorf("not all came: %v, %v, %v", kinds, values, ends)
	}
}

// P25.4: the record of a run that has come to its end is what the walk says.
func TestOfIsMeant(t *testing.T) {
	ended := 0
	for _, source := range sources {
		program, problem := flow.Front(source)
		if problem.Code != api.OK {
			t.Fatal(source, problem)
		}
		for _, input := range [][]int64{nil, {3}, {2, 9, 9}} {
			r, problem := Of(source, input, enough, 3000)
			run, errno := walk.Run(program, input, enough, len(r.Events)+1)
			if problem.Code != api.OK || errno != api.OK {
				t.Fatal(source, problem, errno)
			}
			want := api.Record{Outcome: run.Outcome, Output: run.Output, Input: run.Input, Events: run.Events}
			if r.Outcome.Phase == api.Running {
				r, want = of(r.Events...), of(run.Events[:len(r.Events)]...)
			} else {
				ended++
			}
			if !same(r, want) {
				t.Errorf("P25.4: %q, %v: %s, want %s", source, input, brief(r), brief(want))
			}
		}
	}
	if ended < 20 {
		t.Errorf("%d have ended", ended)
	}
}

// P25.4: a number of steps below 0 counts as 0; the greatest one is taken.
func TestOfSteps(t *testing.T) {
	for _, steps := range []int{math.MinInt, -1, 0} {
		if r, problem := Of(ten, []int64{3}, enough, steps); problem != (api.Problem{}) || !same(r, api.Record{}) {
			t.Errorf("P25.4: %d steps: %+v, %+v", steps, r, problem)
		}
	}
	r, problem := Of(ten, []int64{3}, enough, api.MaxBudget)
	if problem != (api.Problem{}) || len(r.Events) != 16 || r.Output != "3 43 ok\n" || r.Input != 1 || r.Outcome.Phase != api.Ended {
		t.Errorf("P25.4: %+v, %+v", r, problem)
	}
}

// P25.4: what is wrong, the first thing first: the source, then the input and the limits, then the steps.
func TestOfWrong(t *testing.T) {
	refused := func(source string, input []int64, l api.Limits, steps int, want api.Problem) {
		t.Helper()
		if r, problem := Of(source, input, l, steps); problem != want || r.Events != nil || !same(r, api.Record{}) {
			t.Errorf("P25.4: Of(%.100q, %d numbers, %v, %d) = %s, %+v, want %+v", source, len(input), l, steps, brief(r), problem, want)
		}
	}
	long := make([]int64, api.MaxInput+1)
	spoilt := map[string]api.Problem{"": {Code: api.ErrMain}, "fn main() { x = 1; }": {Code: api.ErrUnseen, At: 12}, "fn main() { @1; }": {Code: api.ErrHook, At: 12}, "fn main() { print 1 + true; }": {Code: api.ErrType, At: 22}, "fn main() { print $; }": {Code: api.ErrByte, At: 18}, "fn main() { print 1": {Code: api.ErrToken, At: 19}, strings.Repeat(" ", 20001): {Code: api.ErrSize, At: 20000}}
	for _, steps := range []int{-1, 0, 10, api.MaxBudget, api.MaxBudget + 1, math.MaxInt} {
		for _, l := range []api.Limits{{}, {Depth: 0, Cells: 5}, {Depth: -1}, {Depth: 1001}, {Depth: 1, Cells: -1}, {Depth: 1, Cells: 100001}, {Depth: math.MaxInt, Cells: math.MinInt}} {
			refused(ten, nil, l, steps, api.Problem{Code: api.ErrArg})
			for source, want := range spoilt {
				refused(source, nil, l, steps, want)
				refused(source, long, enough, steps, want)
			}
		}
		refused(ten, long, enough, steps, api.Problem{Code: api.ErrArg})
		for source, want := range spoilt {
			refused(source, nil, enough, steps, want)
		}
	}
	for _, steps := range []int{api.MaxBudget + 1, api.MaxBudget + 2, math.MaxInt32, math.MaxInt} {
		refused(ten, nil, enough, steps, api.Problem{Code: api.ErrSize})
		refused(ten, long[:1000], api.Limits{Depth: 1000, Cells: 100000}, steps, api.Problem{Code: api.ErrSize})
	}
}

// P25.4: an output as long as may be, and one byte longer.
func TestOfOutput(t *testing.T) {
	printing := func(more int) string {
		all := "s" + strings.Repeat(", s", 15)
		return "fn main() { var s: text = \"" + strings.Repeat("s", 128) + "\"; s = s + s; for i = 1 to 4080 { print " + all + "; } print \"" + strings.Repeat("t", more-128) + "\" + \"" + strings.Repeat("u", 128) + "\"; }"
	}
	r, problem := Of(printing(255), nil, enough, api.MaxBudget)
	if problem != (api.Problem{}) || len(r.Output) != 16777216 || r.Outcome.Phase != api.Ended {
		t.Fatalf("P25.4: %d bytes, %v, %+v", len(r.Output), r.Outcome, problem)
	}
	b, errno := Encode(r)
	again, other := Decode(b)
	if errno != api.OK || other != api.OK || !same(again, r) {
		t.Errorf("P25.5: %d, %d", errno, other)
	}
	last := len(r.Events)
	r, problem = Of(printing(256), nil, enough, api.MaxBudget)
	if problem != (api.Problem{Code: api.ErrSize}) || !same(r, api.Record{}) || r.Events != nil {
		t.Errorf("P25.4: %d bytes, %+v", len(r.Output), problem)
	}
	// Stopped ahead of the last print, it is a record still; what else is wrong comes first.
	built, _ := events.Build(printing(256))
	marks, _ := events.Marks(built, nil, enough, api.MaxBudget)
	r, problem = Of(printing(256), nil, enough, marks[last-2])
	if problem != (api.Problem{}) || len(r.Output) != 4080*4112 || !slices.Equal(r.Events[:2], []api.Event{{Kind: api.EvCall, Node: 1, Name: "main"}, {Kind: api.EvStmt, Node: 3}}) {
		t.Errorf("P25.4: %d bytes, %+v", len(r.Output), problem)
	}
	if _, problem = Of(printing(256), nil, api.Limits{}, api.MaxBudget); problem != (api.Problem{Code: api.ErrArg}) {
		t.Errorf("P25.4: %+v", problem)
	}
}
