package points

import (
	"slices"
	"strings"
	"testing"

	"retrace/api"
	"retrace/flow"
)

const sample = "fn f(a: int) {\n  a = 1;\n}\nfn main() { f(2); }"

func onLine(line int, condition string) api.Point {
	return api.Point{Kind: api.PtLine, Line: line, Cond: condition}
}

func onCall(name, condition string) api.Point {
	return api.Point{Kind: api.PtFunc, Name: name, Cond: condition}
}

func onChange(name, condition string) api.Point {
	return api.Point{Kind: api.PtWatch, Name: name, Cond: condition}
}

func checked(t *testing.T, text string) api.Program {
	t.Helper()
	p, problem := flow.Front(text)
	if problem.Code != api.OK {
		t.Fatalf("%s: %v", text, problem)
	}
	return p
}

// of makes a table of points, which then have the numbers 1, 2 ..
func of(t *testing.T, list ...api.Point) *Table {
	t.Helper()
	table := New()
	for n, p := range list {
		if got, errno := table.Add(p); got != n+1 || errno != api.OK {
			t.Fatalf("Add(%+v) = %d, %d, want %d", p, got, errno, n+1)
		}
	}
	return table
}

func number(n int64) api.Value { return api.Value{Kind: api.ValInt, Int: n} }

// seeing is a frame in which one variable is seen, and one more frame in which it is something else.
func seeing(name, typing string, v api.Value) []api.Frame {
	return []api.Frame{
		{Vars: []api.Shown{{Var: api.Var{Name: name, Type: typing}, Value: v}}},
		{Vars: []api.Shown{{Var: api.Var{Name: name, Type: "int"}, Value: number(77)}}},
	}
}

func examplePoints() []api.Point {
	return []api.Point{onLine(2, ""), onCall("f", "a > 1"), onChange("a", "")}
}

// The chapter's rows of what cannot be added.
func TestExampleAdd(t *testing.T) {
	table := of(t, examplePoints()...)
	for n, row := range []struct {
		point api.Point
		want  api.Errno
	}{
		{onLine(0, ""), api.ErrArg}, {onCall("if", ""), api.ErrArg}, {api.Point{Kind: api.PtWatch, Name: "a", Line: 1}, api.ErrArg}, {api.Point{Kind: 4}, api.ErrArg},
		{onLine(1, "a +"), api.ErrExpr}, {onLine(1, strings.Repeat(" ", 301)), api.ErrArg},
	} {
		if got, errno := table.Add(row.point); got != 0 || errno != row.want {
			t.Errorf("row %d: %d, %d, want %d", n+1, got, errno, row.want)
		}
	}
	if got := table.Numbers(); !slices.Equal(got, []int{1, 2, 3}) {
		t.Errorf("what was refused changed the numbers: %v", got)
	}
}

// The chapter's rows of Match.
func TestExampleMatch(t *testing.T) {
	p := checked(t, sample)
	table := of(t, examplePoints()...)
	for n, row := range []struct {
		event  api.Event
		frames []api.Frame
		want   int
	}{
		{api.Event{Kind: api.EvStmt, Node: 4}, nil, 1}, {api.Event{Kind: api.EvStmt, Node: 9}, nil, 0}, {api.Event{Kind: api.EvEnter, Node: 4}, nil, 0}, {api.Event{Kind: api.EvStmt, Node: 99}, nil, 0},
		{api.Event{Kind: api.EvCall, Node: 1, Name: "f"}, nil, 0}, {api.Event{Kind: api.EvCall, Node: 1, Name: "f"}, seeing("a", "int", number(2)), 0},
		{api.Event{Kind: api.EvSet, Node: 2, Name: "a"}, seeing("a", "int", number(2)), 2}, {api.Event{Kind: api.EvSet, Node: 2, Name: "a"}, seeing("a", "int", number(1)), 3}, {api.Event{Kind: api.EvSet, Node: 2, Name: "a"}, nil, 3},
		{api.Event{Kind: api.EvSet, Node: 4, Name: "a"}, nil, 3}, {api.Event{Kind: api.EvTouch, Name: "a"}, nil, 3}, {api.Event{Kind: api.EvSet, Name: "b"}, nil, 0},
	} {
		if got := table.Match(p, row.event, row.frames, nil); got != row.want {
			t.Errorf("row %d: %d, want %d", n+1, got, row.want)
		}
	}
}

// The chapter's rows of points that are turned and deleted.
func TestExampleChanges(t *testing.T) {
	p := checked(t, sample)
	table := of(t, examplePoints()...)
	statement := api.Event{Kind: api.EvStmt, Node: 4}
	for _, off := range []bool{true, false} {
		want := 1
		if off {
			want = 0
		}
		if errno := table.Turn(1, off); errno != api.OK {
			t.Errorf("Turn(1, %v) = %d", off, errno)
		}
		if got := table.Match(p, statement, nil, nil); got != want {
			t.Errorf("off: %v: Match = %d, want %d", off, got, want)
		}
	}
	if first, second := table.Delete(2), table.Delete(2); first != api.OK || second != api.ErrPoint {
		t.Errorf("Delete twice: %d, %d", first, second)
	}
	if got, errno := table.Get(2); got != (api.Point{}) || errno != api.ErrPoint {
		t.Errorf("Get of what is gone: %+v, %d", got, errno)
	}
	if got := table.Numbers(); !slices.Equal(got, []int{1, 3}) {
		t.Errorf("Numbers = %v", got)
	}
	if got, errno := table.Add(onCall("main", "")); got != 4 || errno != api.OK {
		t.Errorf("Add = %d, %d", got, errno)
	}
	if got := table.Match(p, api.Event{Kind: api.EvCall, Node: 7, Name: "main"}, nil, nil); got != 4 {
		t.Errorf("Match = %d", got)
	}
}

// P20.1, P20.2: a table without points.
func TestNoPoints(t *testing.T) {
	p := checked(t, sample)
	for _, table := range []*Table{New(), new(Table)} {
		if got := table.Numbers(); len(got) != 0 {
			t.Errorf("Numbers = %v", got)
		}
		for _, n := range []int{-1, 0, 1, 2} {
			if table.Delete(n) != api.ErrPoint || table.Turn(n, true) != api.ErrPoint || table.Turn(n, false) != api.ErrPoint {
				t.Errorf("there is a point %d", n)
			}
			if got, errno := table.Get(n); got != (api.Point{}) || errno != api.ErrPoint {
				t.Errorf("Get(%d) = %+v, %d", n, got, errno)
			}
		}
		for kind := api.EvStmt; kind <= api.EvTouch; kind++ {
			if got := table.Match(p, api.Event{Kind: kind, Node: 4, Name: "a"}, nil, nil); got != 0 {
				t.Errorf("Match of kind %d = %d", kind, got)
			}
		}
		if got, errno := table.Add(onLine(1, "")); got != 1 || errno != api.OK {
			t.Errorf("the first number is %d, %d", got, errno)
		}
	}
}

// P20.2: a point is told as it was added, with its Off as it is now.
func TestGet(t *testing.T) {
	list := []api.Point{
		onLine(1, ""), onLine(1<<40, " a > # so\n 1 "), onCall("f", "f(1) == g"), onChange("Z_9z", `"x" + str(1) == t`), onChange("a", "new int[3] == b"),
		{Kind: api.PtLine, Line: 3, Off: true}, {Kind: api.PtFunc, Name: "main", Off: true, Cond: "true"}, {Kind: api.PtWatch, Name: "w", Off: true},
	}
	table := of(t, list...)
	for n, want := range list {
		for _, off := range []bool{want.Off, true, true, false, false, true, !want.Off, want.Off} {
			if got, errno := table.Get(n + 1); errno != api.OK || got != want {
				t.Errorf("Get(%d) = %+v, %d, want %+v", n+1, got, errno, want)
			}
			if errno := table.Turn(n+1, off); errno != api.OK {
				t.Errorf("Turn(%d, %v) = %d", n+1, off, errno)
			}
			want.Off = off
			list[n].Off = off
		}
	}
	for n, want := range list {
		if got, errno := table.Get(n + 1); errno != api.OK || got != want {
			t.Errorf("at last Get(%d) = %+v, %d, want %+v", n+1, got, errno, want)
		}
	}
}

// P20.3: a point that is off when it is added is not met till it is turned on.
func TestAddedOff(t *testing.T) {
	p := checked(t, sample)
	table := of(t, api.Point{Kind: api.PtLine, Line: 2, Off: true})
	statement := api.Event{Kind: api.EvStmt, Node: 4}
	if got := table.Match(p, statement, nil, nil); got != 0 {
		t.Errorf("Match of a point that is off = %d", got)
	}
	if errno := table.Turn(1, false); errno != api.OK {
		t.Errorf("Turn = %d", errno)
	}
	if got := table.Match(p, statement, nil, nil); got != 1 {
		t.Errorf("Match of a point that is on = %d", got)
	}
}
