package events

import (
	"slices"
	"strings"
	"testing"

	"retrace/api"
	"retrace/value"
)

var wide = api.Limits{Depth: 10, Cells: 100}

func i(n int64) api.Value { return api.Value{Kind: api.ValInt, Int: n} }

func b(n int64) api.Value { return api.Value{Kind: api.ValBool, Int: n} }

func x(s string) api.Value { return api.Value{Kind: api.ValText, Text: s} }

func r(n int64) api.Value { return api.Value{Kind: api.ValRef, Int: n} }

func ended() api.Outcome { return api.Outcome{Phase: api.Ended} }

func trapped(trap api.Trap) api.Outcome { return api.Outcome{Phase: api.Trapped, Trap: trap} }

// told is events in words: the kind, the line at which the node begins, the name and the value.
func told(p api.Program, events []api.Event) []string {
	kinds := []string{"", "stmt", "enter", "exit", "call", "leave", "return", "set", "touch"}
	var words []string
	for _, e := range events {
		word := kinds[e.Kind] + " " + string(rune('1'+strings.Count(p.Text[:p.Tree.Nodes[e.Node].At], "\n")))
		if e.Name != "" {
			word += " " + e.Name
		}
		if e.Value != (api.Value{}) {
			word += " " + value.Show(e.Value)
		}
		words = append(words, word)
	}
	return words
}

// P17.1: the chapter's examples.
func TestReadExamples(t *testing.T) {
	set, stmt, back := []api.Hook{{Kind: api.EvSet, Node: 8, Name: "x"}}, []api.Hook{{Kind: api.EvStmt, Node: 4}}, []api.Hook{{Kind: api.EvReturn, Node: 4}}
	none := api.Event{}
	for _, row := range []struct {
		table []api.Hook
		y     api.Yield
		want  api.Event
		errno api.Errno
	}{
		{set, api.Yield{Hook: 1, Has: true, Value: i(5)}, api.Event{Kind: api.EvSet, Node: 8, Name: "x", Value: i(5)}, api.OK},
		{set, api.Yield{}, none, api.ErrRow},
		{set, api.Yield{Hook: 2}, none, api.ErrRow},
		{set, api.Yield{Hook: 1}, none, api.ErrRow},
		{set, api.Yield{Hook: 1, Has: true}, none, api.ErrRow},
		{set, api.Yield{Hook: 1, Has: true, Value: b(2)}, none, api.ErrRow},
		{stmt, api.Yield{Hook: 1}, api.Event{Kind: api.EvStmt, Node: 4}, api.OK},
		{stmt, api.Yield{Hook: 1, Has: true, Value: i(5)}, none, api.ErrRow},
		{back, api.Yield{Hook: 1}, api.Event{Kind: api.EvReturn, Node: 4}, api.OK},
		{back, api.Yield{Hook: 1, Has: true, Value: i(5)}, api.Event{Kind: api.EvReturn, Node: 4, Value: i(5)}, api.OK},
	} {
		if got, errno := Read(row.table, row.y); got != row.want || errno != row.errno {
			t.Errorf("Read(%v, %v) = %v, %d, want %v, %d", row.table, row.y, got, errno, row.want, row.errno)
		}
	}
}

// P17.2, P17.3, P17.4: the chapter's examples.
func TestBuildExamples(t *testing.T) {
	const text = "fn main() { print 1; }"
	p := built(t, text)
	table := []api.Hook{{Kind: api.EvCall, Node: 1, Name: "main"}, {Kind: api.EvStmt, Node: 3}, {Kind: api.EvLeave, Node: 1}}
	instrs := []api.Instr{{Op: api.InEmit, A: 1}, {Op: api.InEmit, A: 2}, {Op: api.InInt, A: 1}, {Op: api.InPrint, A: 1}, {Op: api.InEmit, A: 3}, {Op: api.InDone}}
	if p.Program.Text != text || len(p.Program.Tree.Nodes) != 5 || !slices.Equal(p.Table, table) || !slices.Equal(p.Code.Instrs, instrs) {
		t.Errorf("%v", p)
	}
	for _, row := range []struct {
		steps int
		want  api.Run
		marks []int
	}{
		{-1, api.Run{}, nil},
		{0, api.Run{}, nil},
		{1, api.Run{Steps: 1, Events: make([]api.Event, 1)}, []int{1}},
		{2, api.Run{Steps: 2, Events: make([]api.Event, 2)}, []int{1, 2}},
		{3, api.Run{Steps: 3, Events: make([]api.Event, 2)}, []int{1, 2}},
		{4, api.Run{Steps: 4, Output: "1\n", Events: make([]api.Event, 2)}, []int{1, 2}},
		{5, api.Run{Steps: 5, Output: "1\n", Events: make([]api.Event, 3)}, []int{1, 2, 5}},
		{6, api.Run{Steps: 6, Output: "1\n", Events: make([]api.Event, 3), Outcome: ended()}, []int{1, 2, 5}},
		{1000, api.Run{Steps: 6, Output: "1\n", Events: make([]api.Event, 3), Outcome: ended()}, []int{1, 2, 5}},
	} {
		for n := range row.want.Events {
			row.want.Events[n] = api.Event{Kind: table[n].Kind, Node: table[n].Node, Name: table[n].Name}
		}
		row.want.Arrays = [][]api.Value{nil}
		got, errno := Run(p, nil, wide, row.steps)
		marks, other := Marks(p, nil, wide, row.steps)
		if errno != api.OK || other != api.OK || !sameRun(got, row.want) || !slices.Equal(marks, row.marks) {
			t.Errorf("%d instructions: %d, %v, %d, %v, want %v, %v", row.steps, errno, got, other, marks, row.want, row.marks)
		}
	}
	if made, problem := Build("fn main() { x = 1; }"); problem != (api.Problem{Code: api.ErrUnseen, At: 12}) || !same(made, Built{}) {
		t.Errorf("%v, %v", problem, made)
	}
	longer := p
	longer.Table = append(slices.Clone(p.Table), api.Hook{})
	refuses(t, "the zero Built", Built{}, nil, wide, 1000, api.ErrArg)
	refuses(t, "a row more", longer, nil, wide, 1000, api.ErrArg)
	refuses(t, "Depth 0", p, nil, api.Limits{Cells: 100}, 1000, api.ErrArg)
	refuses(t, "1000001 instructions", p, nil, wide, 1000001, api.ErrSize)
}

const ten = `fn add(a: int, b: int): int {
  return a + b;
}
fn main() {
  var x: int = 2;
  read x;
  var a: [int] = new int[x];
  a[1] = add(x, 40);
  print x, a[1], "ok";
}
`

// P17.8: the document's examples of the whole, as far as a run shows them.
func TestTenExamples(t *testing.T) {
	p := built(t, ten)
	events := []string{"call 4 main", "stmt 5", "set 5 x 2", "stmt 6", "set 6 x 3", "stmt 7", "set 7 a #1", "stmt 8", "call 1 add", "set 1 a 3", "set 1 b 40", "stmt 2", "return 2 43", "touch 8 a #1", "stmt 9", "leave 4"}
	one := slices.Clone(events)
	one[4], one[9], one[12] = "set 6 x 1", "set 1 a 1", "return 2 41"
	for _, row := range []struct {
		input  []int64
		l      api.Limits
		want   api.Outcome
		output string
		read   int
		arrays [][]api.Value
		events []string
	}{
		{[]int64{3}, wide, ended(), "3 43 ok\n", 1, [][]api.Value{nil, {i(0), i(43), i(0)}}, events},
		{[]int64{1}, wide, trapped(api.TrapIndex), "", 1, [][]api.Value{nil, {i(0)}}, one[:13]},
		{nil, wide, trapped(api.TrapInput), "", 0, [][]api.Value{nil}, events[:4]},
		{[]int64{3}, api.Limits{Depth: 10, Cells: 3}, trapped(api.TrapHeap), "", 1, [][]api.Value{nil}, events[:6]},
		{[]int64{3}, api.Limits{Depth: 1, Cells: 100}, trapped(api.TrapDepth), "", 1, [][]api.Value{nil, {i(0), i(0), i(0)}}, events[:8]},
	} {
		got, errno := Run(p, row.input, row.l, 1000)
		if errno != api.OK || !endsAlike(got, api.Run{Outcome: row.want, Output: row.output, Input: row.read, Arrays: row.arrays}) {
			t.Errorf("%v, %v: %d, %v, want %v", row.input, row.l, errno, got, row)
		}
		if words := told(p.Program, got.Events); !slices.Equal(words, row.events) {
			t.Errorf("%v, %v: %q, want %q", row.input, row.l, words, row.events)
		}
	}
}

// P17.3, P17.4: a code that chapter 21 writes out, with the marks of its events, in a run that has no end.
func TestEndlessExample(t *testing.T) {
	p := built(t, "fn main() { var x: int = 2; print x; while true { } }")
	marks := []int{1, 2, 5, 6, 9}
	for mark := 13; mark <= 10000; mark += 6 {
		marks = append(marks, mark, mark+1)
	}
	got, errno := Marks(p, nil, wide, 10000)
	run, other := Run(p, nil, wide, 10000)
	if errno != api.OK || other != api.OK || !slices.Equal(got, marks) {
		t.Errorf("%d, %d, %v", errno, other, got)
	}
	if run.Outcome != (api.Outcome{}) || run.Steps != 10000 || run.Output != "2\n" || len(run.Events) != len(marks) || run.Events[6].Kind != api.EvExit {
		t.Errorf("%v, %d steps, %q, %d events", run.Outcome, run.Steps, run.Output, len(run.Events))
	}
}
