package view

import (
	"strconv"
	"strings"
	"testing"

	"retrace/api"
	"retrace/flow"
	"retrace/value"
)

// example is the chapter's program; its nodes: 0 program, 1 f, 2 a, 3 body, 4 return, 5 a, 6 main, 7 body, 8 var x, 9 f(1), 10 the 1, 11 if, 12 true, 13 block, 14 var x, 15 the 2, 16 x = 3, 17 x, 18 the 3.
const example = "fn f(a: int): int { return a; } fn main() { var x: int = f(1); if true { var x: int = 2; x = 3; } }"

func i(n int64) api.Value { return api.Value{Kind: api.ValInt, Int: n} }

func b(n int64) api.Value { return api.Value{Kind: api.ValBool, Int: n} }

func x(s string) api.Value { return api.Value{Kind: api.ValText, Text: s} }

func r(n int64) api.Value { return api.Value{Kind: api.ValRef, Int: n} }

func stmt(n int) api.Event  { return api.Event{Kind: api.EvStmt, Node: n} }
func enter(n int) api.Event { return api.Event{Kind: api.EvEnter, Node: n} }
func exit(n int) api.Event  { return api.Event{Kind: api.EvExit, Node: n} }
func leave(n int) api.Event { return api.Event{Kind: api.EvLeave, Node: n} }
func back(n int, v api.Value) api.Event {
	return api.Event{Kind: api.EvReturn, Node: n, Value: v}
}
func call(n int, name string) api.Event {
	return api.Event{Kind: api.EvCall, Node: n, Name: name}
}
func set(n int, name string, v api.Value) api.Event {
	return api.Event{Kind: api.EvSet, Node: n, Name: name, Value: v}
}
func touch(n int, name string, v api.Value) api.Event {
	return api.Event{Kind: api.EvTouch, Node: n, Name: name, Value: v}
}

func front(t testing.TB, text string) api.Program {
	t.Helper()
	p, problem := flow.Front(text)
	if problem.Code != api.OK {
		t.Fatalf("%q is refused: %v", text, problem)
	}
	return p
}

// told is the frames in words, the innermost first: the function, where it is, each variable with its slot and its value.
func told(v *View) string {
	var words []string
	for _, f := range v.Frames() {
		word := strconv.Itoa(f.Func) + " at " + strconv.Itoa(f.Node)
		for _, shown := range f.Vars {
			word += " " + shown.Var.Name + strconv.Itoa(shown.Var.Slot) + "=" + value.Show(shown.Value)
		}
		words = append(words, word)
	}
	return strings.Join(words, "; ")
}

// row is events, one behind the other: whether the last one is taken (the others are), and the frames then.
type row struct {
	events []api.Event
	taken  bool
	frames string
}

func yes(frames string, events ...api.Event) row { return row{events, true, frames} }
func no(frames string, events ...api.Event) row  { return row{events, false, frames} }

// goes has a program's view take the rows, and the chapter's words beside it.
func goes(t *testing.T, text string, rows ...row) {
	t.Helper()
	p := newPair(t, front(t, text))
	for n, row := range rows {
		for at, e := range row.events {
			if taken := p.take(t, e); taken != (row.taken || at < len(row.events)-1) {
				t.Fatalf("%s: row %d: %v: taken is %v", text, n+1, e, taken)
			}
		}
		p.agrees(t)
		if got := told(p.v); got != row.frames {
			t.Fatalf("%s: row %d: %v: frames %q, want %q", text, n+1, row.events, got, row.frames)
		}
	}
}

// P18.2, P18.4: the chapter's table of examples.
func TestExample(t *testing.T) {
	goes(t, example,
		yes("1 at 0", call(6, "main")),
		yes("1 at 8", stmt(8)),
		yes("0 at 0 a0=1; 1 at 8", call(1, "f"), set(2, "a", i(1))),
		yes("1 at 8", stmt(4), back(4, i(1))),
		yes("1 at 14 x0=1", set(8, "x", i(1)), stmt(11), enter(13), stmt(14)),
		yes("1 at 16 x1=3", set(14, "x", i(2)), stmt(16), set(16, "x", i(3))),
		yes("1 at 16 x0=1", exit(13)),
		yes("", leave(6)),
		no("", leave(6)), no("", call(6, "main")), no("", call(1, "f")), no("", stmt(8)), no("", exit(13)),
	)
}

// P18.2: what the chapter says is refused there.
func TestExampleRefusals(t *testing.T) {
	goes(t, example,
		no("", stmt(8)), no("", call(1, "f")), no("", call(6, "f")),
		yes("1 at 0", call(6, "main")),
		no("1 at 0", call(1, "f")), no("1 at 0", set(8, "x", i(1))),
		no("1 at 0", api.Event{Kind: api.EvEnter, Node: 13, Name: "x"}),
		no("1 at 0", exit(7)), no("1 at 0", leave(1)), no("1 at 0", stmt(16)), no("1 at 0", stmt(7)),
		yes("1 at 11", stmt(11)),
		yes("0 at 0; 1 at 8", stmt(8), call(1, "f")),
		no("0 at 0; 1 at 8", stmt(4)), no("0 at 0; 1 at 8", set(2, "a", b(1))),
		yes("0 at 4 a0=1; 1 at 8", set(2, "a", i(1)), stmt(4)),
		no("0 at 4 a0=1; 1 at 8", back(4, api.Value{})), no("0 at 4 a0=1; 1 at 8", stmt(8)),
	)
}

// P18.3: what is told of events that were taken, and of none.
func TestCounts(t *testing.T) {
	v, _ := New(front(t, example))
	if e, some := v.Last(); e != (api.Event{}) || some || v.Count() != 0 || v.Depth() != 0 || len(v.Frames()) != 0 {
		t.Errorf("of no event: %v, %v, %d, %d, %v", e, some, v.Count(), v.Depth(), v.Frames())
	}
	for n, step := range []struct {
		e     api.Event
		taken bool
		depth int
	}{
		{stmt(8), false, 0}, {call(6, "main"), true, 1}, {call(6, "main"), false, 1}, {stmt(8), true, 1}, {stmt(8), true, 1},
		{call(1, "f"), true, 2}, {set(2, "a", i(9)), true, 2}, {set(2, "a", i(8)), false, 2}, {stmt(4), true, 2},
		{call(6, "main"), true, 3}, {leave(6), true, 2}, {back(4, i(5)), true, 1}, {leave(6), true, 0}, {call(6, "main"), false, 0},
	} {
		was, before := v.Last()
		count := v.Count()
		errno := v.Take(step.e)
		e, some := v.Last()
		switch {
		case v.Depth() != step.depth || len(v.Frames()) != step.depth:
			t.Errorf("step %d: Depth is %d", n+1, v.Depth())
		case step.taken && (errno != api.OK || e != step.e || !some || v.Count() != count+1):
			t.Errorf("step %d: %d, %v, %v, %d", n+1, errno, e, some, v.Count())
		case !step.taken && (errno != api.ErrFold || e != was || some != before || v.Count() != count):
			t.Errorf("step %d: %d, %v, %v, %d", n+1, errno, e, some, v.Count())
		}
	}
}

// Of a variable all is told that scope tells of it.
func TestWholeVariables(t *testing.T) {
	v, _ := New(front(t, "fn main() { g(new text[2]); } fn g(list: [text]) { for n = 1 to 2 { var t: text = \"\"; } }"))
	for _, e := range []api.Event{call(1, "main"), stmt(3), call(7, "g"), set(8, "list", r(1)), stmt(10), enter(13), set(10, "n", i(7)), stmt(14), set(14, "t", x("é"))} {
		if v.Take(e) != api.OK {
			t.Fatal(e)
		}
	}
	want := []api.Frame{
		{Func: 1, Node: 14, Vars: []api.Shown{
			{Var: api.Var{Name: "list", Type: "[text]", Slot: 0, Node: 8}, Value: r(1)},
			{Var: api.Var{Name: "n", Type: "int", Slot: 1, Node: 10}, Value: i(7)},
			{Var: api.Var{Name: "t", Type: "text", Slot: 2, Node: 14}, Value: x("é")},
		}},
		{Func: 0, Node: 3},
	}
	if got := v.Frames(); !sameFrames(got, want) {
		t.Errorf("%v, want %v", got, want)
	}
}
