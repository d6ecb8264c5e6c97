package query

import (
	"slices"
	"testing"

	"retrace/api"
	"retrace/flow"
	"retrace/parse"
	"retrace/walk"
)

// ten is the source of the document's ten examples.
const ten = "fn add(a: int, b: int): int {\n  return a + b;\n}\nfn main() {\n  var x: int = 2;\n  read x;\n  var a: [int] = new int[x];\n  a[1] = add(x, 40);\n  print x, a[1], \"ok\";\n}\n"

var enough = api.Limits{Depth: 20, Cells: 500}

func number(n int64) api.Value { return api.Value{Kind: api.ValInt, Int: n} }

func truth(n int64) api.Value { return api.Value{Kind: api.ValBool, Int: n} }

func text(s string) api.Value { return api.Value{Kind: api.ValText, Text: s} }

func reference(n int64) api.Value { return api.Value{Kind: api.ValRef, Int: n} }

func of(list ...api.Event) api.Record { return api.Record{Events: list} }

func stmt(n int) api.Event  { return api.Event{Kind: api.EvStmt, Node: n} }
func enter(n int) api.Event { return api.Event{Kind: api.EvEnter, Node: n} }
func exit(n int) api.Event  { return api.Event{Kind: api.EvExit, Node: n} }
func leave(n int) api.Event { return api.Event{Kind: api.EvLeave, Node: n} }
func call(n int, name string) api.Event {
	return api.Event{Kind: api.EvCall, Node: n, Name: name}
}
func set(n int, name string, v api.Value) api.Event {
	return api.Event{Kind: api.EvSet, Node: n, Name: name, Value: v}
}

// hooked is the checked program of a source that may have hooks.
func hooked(t testing.TB, source string) api.Program {
	t.Helper()
	read, problem := parse.Program(source)
	if problem.Code != api.OK {
		t.Fatalf("%q is refused: %v", source, problem)
	}
	p, problem := flow.Tree(read)
	if problem.Code != api.OK {
		t.Fatalf("%q is refused: %v", source, problem)
	}
	p.Text = source
	return p
}

// kept is a program with the record of its walk, up to so many events.
func kept(t testing.TB, source string, most int, input ...int64) (api.Program, api.Record) {
	t.Helper()
	p := hooked(t, source)
	run, errno := walk.Run(p, input, enough, most)
	if errno != api.OK {
		t.Fatal(errno)
	}
	return p, api.Record{Outcome: run.Outcome, Output: run.Output, Input: run.Input, Events: run.Events}
}

// P26.1: the chapter's examples.
func TestHistoryExamples(t *testing.T) {
	p, r := kept(t, ten, 100, 3)
	at := func(position int) int { return r.Events[position-1].Node }
	for _, row := range []struct {
		function, name string
		want           []api.Change
		errno          api.Errno
	}{
		{"main", "x", []api.Change{{At: 3, Node: at(3), Value: number(2)}, {At: 5, Node: at(5), Value: number(3)}}, api.OK},
		{"main", "a", []api.Change{{At: 7, Node: at(7), Value: reference(1)}}, api.OK},
		{"add", "a", []api.Change{{At: 10, Node: at(10), Value: number(3)}}, api.OK},
		{"add", "b", []api.Change{{At: 11, Node: at(11), Value: number(40)}}, api.OK},
		{"add", "z", nil, api.ErrAsk},
		{"sub", "a", nil, api.ErrAsk},
		{"main", "b", nil, api.ErrAsk},
		{"add", "x", nil, api.ErrAsk},
		{"main", "", nil, api.ErrAsk},
		{"", "x", nil, api.ErrAsk},
		{"main", "main", nil, api.ErrAsk},
		{"Main", "x", nil, api.ErrAsk},
		{"main", "X", nil, api.ErrAsk},
	} {
		if l, errno := History(p, r, row.function, row.name); !slices.Equal(l, row.want) || errno != row.errno || errno != api.OK && l != nil {
			t.Errorf("P26.1: History(%s, %s) = %v, %d, want %v, %d", row.function, row.name, l, errno, row.want, row.errno)
		}
	}
}

// P26.2: the chapter's examples.
func TestSetterExamples(t *testing.T) {
	p, r := kept(t, ten, 100, 3)
	for _, row := range []struct {
		name  string
		at    int
		want  int
		errno api.Errno
	}{
		{"x", 4, 3, api.OK}, {"x", 8, 5, api.OK}, {"b", 12, 11, api.OK}, {"b", 13, 0, api.OK}, {"x", 17, 0, api.ErrAsk},
		{"a", 8, 7, api.OK}, {"a", 10, 10, api.OK}, {"a", 9, 0, api.OK}, {"a", 13, 7, api.OK}, {"a", 14, 7, api.OK},
		{"x", 0, 0, api.OK}, {"x", 1, 0, api.OK}, {"x", 2, 0, api.OK}, {"x", 3, 3, api.OK}, {"x", 5, 5, api.OK}, {"x", 9, 0, api.OK},
		{"x", 15, 5, api.OK}, {"x", 16, 0, api.OK}, {"x", -1, 0, api.ErrAsk}, {"x", 1 << 62, 0, api.ErrAsk}, {"x", -1 << 63, 0, api.ErrAsk},
		{"zz", 15, 0, api.OK}, {"", 15, 0, api.OK}, {"zz", 17, 0, api.ErrAsk},
	} {
		if n, errno := Setter(p, r, row.name, row.at); n != row.want || errno != row.errno {
			t.Errorf("P26.2: Setter(%s, %d) = %d, %d, want %d, %d", row.name, row.at, n, errno, row.want, row.errno)
		}
	}
}

// P26.3, P26.4: the chapter's examples.
func TestCountExamples(t *testing.T) {
	p, r := kept(t, ten, 100, 3)
	if l, errno := Coverage(p, r); !slices.Equal(l, []int{0, 1, 0, 0, 1, 1, 1, 1, 1, 0, 0}) || errno != api.OK {
		t.Errorf("P26.3: Coverage = %v, %d", l, errno)
	}
	if l, errno := Profile(p, r); !slices.Equal(l, []api.Cost{{Func: 0, Calls: 1, Own: 1, All: 1}, {Func: 1, Calls: 1, Own: 5, All: 6}}) || errno != api.OK {
		t.Errorf("P26.4: Profile = %v, %d", l, errno)
	}
	if l, errno := Coverage(p, of()); !slices.Equal(l, make([]int, 11)) || errno != api.OK {
		t.Errorf("P26.3: of no events: Coverage = %v, %d", l, errno)
	}
	if l, errno := Profile(p, of()); !slices.Equal(l, []api.Cost{{Func: 0}, {Func: 1}}) || errno != api.OK {
		t.Errorf("P26.4: of no events: Profile = %v, %d", l, errno)
	}
}

// P26.5: the chapter's examples.
func TestFramesExamples(t *testing.T) {
	p, r := kept(t, ten, 100, 3)
	for _, row := range []struct {
		at    int
		want  []int
		errno api.Errno
	}{
		{0, nil, api.OK}, {1, []int{1}, api.OK}, {8, []int{1}, api.OK}, {9, []int{0, 1}, api.OK}, {12, []int{0, 1}, api.OK},
		{13, []int{1}, api.OK}, {15, []int{1}, api.OK}, {16, nil, api.OK}, {17, nil, api.ErrAsk}, {-1, nil, api.ErrAsk},
	} {
		var funcs []int
		l, errno := Frames(p, r, row.at)
		for _, f := range l {
			funcs = append(funcs, f.Func)
		}
		if !slices.Equal(funcs, row.want) || errno != row.errno {
			t.Errorf("P26.5: Frames(%d) = %v, %d, want those of %v, %d", row.at, l, errno, row.want, row.errno)
		}
	}
	l, _ := Frames(p, r, 12)
	want := []api.Shown{{Var: api.Var{Name: "a", Type: "int", Slot: 0, Node: 2}, Value: number(3)}, {Var: api.Var{Name: "b", Type: "int", Slot: 1, Node: 3}, Value: number(40)}}
	if l[0].Node != r.Events[11].Node || !slices.Equal(l[0].Vars, want) {
		t.Errorf("P26.5: Frames(12) = %+v", l)
	}
}

// The last row of the chapter's table: a record whose first event is an EvStmt does not fit.
func TestFoldExample(t *testing.T) {
	p, r := kept(t, ten, 100, 3)
	r.Events = r.Events[1:]
	if n, errno := Setter(p, r, "x", 4); n != 0 || errno != api.ErrFold {
		t.Errorf("P26.2: Setter = %d, %d", n, errno)
	}
}

// P26.2: a name that is declared anew, in a block, in each turn of a loop, and in each of the frames of a function that calls itself.
func TestSetterOfHidden(t *testing.T) {
	p, r := kept(t, "fn f(n: int): int { if n > 0 { var n: int = f(n - 1); return n; } return n; } fn main() { var n: int = f(1); for n = 1 to 2 { n = 7; } }", 100)
	// 1 call main, 2 stmt; 3 call f, 4 set n = 1, 5 stmt if, 6 enter, 7 stmt var; 8 call f, 9 set n = 0, 10 stmt if, 11 stmt return, 12 return;
	// 13 set n = 0 (the inner one), 14 stmt, 15 return; 16 set n = 0, 17 stmt for; 18 enter, 19 set n = 1, 20 stmt, 21 set n = 7, 22 exit; 23 enter, 24 set n = 2, ...
	for at, want := range []int{0, 0, 0, 0, 4, 4, 4, 4, 0, 9, 9, 9, 4, 13, 13, 0, 16, 16, 16, 19, 19, 21, 16, 16, 24, 24, 26, 16, 0} {
		if n, errno := Setter(p, r, "n", at); n != want || errno != api.OK {
			t.Errorf("P26.2: Setter(n, %d) = %d, %d, want %d", at, n, errno, want)
		}
	}
	if len(r.Events) != 28 {
		t.Errorf("%d events", len(r.Events))
	}
	history, _ := History(p, r, "f", "n")
	if !slices.EqualFunc(history, []int{4, 9, 13}, func(c api.Change, at int) bool { return c.At == at }) {
		t.Errorf("P26.1: History(f, n) = %v", history)
	}
}

// P26.1, P26.2: an assignment sets the variable that its name means there, though one of that name is declared in its block by now.
func TestSetterByMeaning(t *testing.T) {
	p := hooked(t, "fn main() { var x: int = 1; { x = 2; var x: int = 3; } }")
	// 3 var x, 4 the 1, 5 block, 6 x = 2, 7 x, 8 the 2, 9 var x, 10 the 3: no run comes back to 6, but the record fits.
	r := of(call(1, "main"), stmt(3), set(3, "x", number(1)), enter(5), stmt(9), set(9, "x", number(3)), stmt(6), set(6, "x", number(2)), exit(5))
	for at, want := range []int{0, 0, 0, 3, 3, 3, 6, 6, 6, 8} {
		if n, errno := Setter(p, r, "x", at); n != want || errno != api.OK {
			t.Errorf("P26.2: Setter(x, %d) = %d, %d, want %d", at, n, errno, want)
		}
	}
	agrees(t, p, r)
}
