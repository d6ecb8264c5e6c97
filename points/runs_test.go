package points

import (
	"slices"
	"testing"

	"retrace/api"
	"retrace/view"
	"retrace/walk"
)

// DOC.md's source.
const adding = `fn add(a: int, b: int): int {
  return a + b;
}
fn main() {
  var x: int = 2;
  read x;
  var a: [int] = new int[x];
  a[1] = add(x, 40);
  print x, a[1], "ok";
}
`

// moving is a run, position by position: each event with what can be seen behind it.
type moving struct {
	program api.Program
	events  []api.Event
	frames  [][]api.Frame
	arrays  [][][]api.Value
}

func run(t *testing.T, text string, input ...int64) moving {
	t.Helper()
	m := moving{program: checked(t, text)}
	walked, errno := walk.New(m.program, input, api.Limits{Depth: 12, Cells: 100})
	if errno != api.OK {
		t.Fatalf("walk: %d", errno)
	}
	seen, errno := view.New(m.program)
	if errno != api.OK {
		t.Fatalf("view: %d", errno)
	}
	for e, more := walked.Step(); more; e, more = walked.Step() {
		if errno := seen.Take(e); errno != api.OK {
			t.Fatalf("event %d, %+v: %d", len(m.events)+1, e, errno)
		}
		m.events = append(m.events, e)
		m.frames = append(m.frames, seen.Frames())
		m.arrays = append(m.arrays, walked.Result().Arrays)
	}
	return m
}

// met are the positions at which a table tells a point, and the points that it tells there.
func (m moving) met(table *Table) (positions, told []int) {
	for n, e := range m.events {
		if point := table.Match(m.program, e, m.frames[n], m.arrays[n]); point != 0 {
			positions, told = append(positions, n+1), append(told, point)
		}
	}
	return positions, told
}

// P20.3: the positions of DOC.md's source, with the input 3, at which points are met.
func TestAdding(t *testing.T) {
	m := run(t, adding, 3)
	if len(m.events) != 16 {
		t.Fatalf("%d events", len(m.events))
	}
	for n, row := range []struct {
		point api.Point
		want  []int
	}{
		{onLine(1, ""), nil}, {onLine(2, ""), []int{12}}, {onLine(3, ""), nil}, {onLine(4, ""), nil}, {onLine(5, ""), []int{2}}, {onLine(6, ""), []int{4}}, {onLine(7, ""), []int{6}}, {onLine(8, ""), []int{8}}, {onLine(9, ""), []int{15}}, {onLine(10, ""), nil}, {onLine(11, ""), nil}, {onLine(99, ""), nil},
		{onCall("add", ""), []int{11}}, {onCall("main", ""), []int{1}}, {onCall("x", ""), nil}, {onCall("Add", ""), nil},
		{onChange("x", ""), []int{3, 5}}, {onChange("a", ""), []int{7, 10, 14}}, {onChange("b", ""), []int{11}}, {onChange("add", ""), nil}, {onChange("X", ""), nil},
		{onLine(2, "a + b == 43"), []int{12}}, {onLine(2, "a + b == 44"), nil}, {onLine(2, "x == 3"), nil}, {onLine(6, "x == 2"), []int{4}}, {onLine(7, "x == 2"), nil}, {onLine(9, "a[1] == 43"), []int{15}}, {onLine(8, "a[1] == 43"), nil},
		{onCall("add", "a == 3 && b == 40"), []int{11}}, {onCall("add", "a == 3 && b == 41"), nil}, {onCall("main", "true"), []int{1}}, {onCall("main", "x == 2"), nil},
		{onChange("x", "x == 3"), []int{5}}, {onChange("x", "x < 3"), []int{3}}, {onChange("a", "len(a) == 3"), []int{7, 14}}, {onChange("a", "a[1] == 43"), []int{14}}, {onChange("a", "a == 3"), []int{10}}, {onChange("a", "b == 40"), nil},
	} {
		if got, _ := m.met(of(t, row.point)); !slices.Equal(got, row.want) {
			t.Errorf("row %d: %v, want %v", n+1, got, row.want)
		}
	}
	all := of(t, onChange("b", ""), onCall("add", ""), onChange("x", "x == 3"), onLine(9, ""), onChange("x", ""), onLine(9, ""))
	positions, told := m.met(all)
	if !slices.Equal(positions, []int{3, 5, 11, 15}) || !slices.Equal(told, []int{5, 3, 1, 4}) {
		t.Errorf("all of them: %v at %v", told, positions)
	}
	all.Turn(1, true)
	all.Delete(4)
	if _, told = m.met(all); !slices.Equal(told, []int{5, 3, 2, 6}) {
		t.Errorf("one off and one gone: %v", told)
	}
}

func someRuns(t *testing.T) []moving {
	return []moving{
		run(t, adding, 3), run(t, adding, 1), run(t, adding), run(t, sample), run(t, "fn main() { }"),
		run(t, "fn none() { }\nfn one(a: int) { none(); none(); }\nfn two(a: int, b: int): int {\n return a +\n b; }\nfn main() { one(two(two(1, 2), two(3, 4))); none(); }"),
		run(t, "fn eight(a: int, b: text, c: bool, d: [int], e: int, f: int, g: int, h: int) { if a > 0 { eight(a - 1, b, c, d, e, f, g, h); } }\nfn main() { eight(3, \"\", true, new int[1], 1, 2, 3, 4); }"),
		run(t, "fn down(n: int) { down(n - 1); }\nfn main() { down(9); }"),
		run(t, "fn main() {\n var a: int = 0; a = 1; out:\n while true {\n  for\n i = 1 to 3 { a = a + i; if a > 4 { break out; }\n  else if a > 3 { continue\n; } }\n }\n { var a: text = \"\"; a =\n\"x\"; }\n a\n=\n9;\n}"),
	}
}

// P20.3: in a run a function has begun once for each of its calls, as many events behind the call as it has parameters, and ahead of its first statement.
func TestBegun(t *testing.T) {
	for n, m := range someRuns(t) {
		for _, f := range m.program.Scoped.Funcs {
			var want []int
			for at, e := range m.events {
				if e.Kind == api.EvCall && e.Name == f.Name {
					want = append(want, at+1+f.Params)
				}
			}
			if got, _ := m.met(of(t, onCall(f.Name, ""))); !slices.Equal(got, want) {
				t.Errorf("run %d: %s has begun at %v, want %v", n+1, f.Name, got, want)
			}
		}
	}
}

// P20.3: in a run the points on lines and names are met as it is told there, and at no other event.
func TestRuns(t *testing.T) {
	for n, m := range someRuns(t) {
		var list []api.Point
		for line := 1; line <= 16; line++ {
			list = append(list, onLine(line, ""), onLine(line, "a == 1"))
		}
		for _, name := range []string{"a", "b", "i", "n", "x", "f", "none", "one", "two", "eight", "down", "main"} {
			list = append(list, onChange(name, ""), onCall(name, ""), onChange(name, name+" == 3"), onCall(name, "a == 3"), onCall(name, "n < 2"))
		}
		for _, point := range list {
			var want []int
			for at, e := range m.events {
				if meetsPlainly(point, m.program, e, m.frames[at], m.arrays[at]) {
					want = append(want, at+1)
				}
			}
			if got, _ := m.met(of(t, point)); !slices.Equal(got, want) {
				t.Errorf("run %d: %+v is met at %v, want %v", n+1, point, got, want)
			}
		}
	}
}

// P20.3: a statement begins on the line of its first token alone, a labelled loop on its label's; several may begin on one.
func TestLines(t *testing.T) {
	m := someRuns(t)[8]
	for line, want := range map[int][]api.Kind{
		1: nil, 2: {api.KVar, api.KAssign, api.KWhile}, 4: {api.KFor}, 5: {api.KAssign, api.KIf, api.KAssign, api.KIf, api.KAssign, api.KIf, api.KBreak}, 6: {api.KContinue}, 8: nil, 9: {api.KVar, api.KAssign}, 10: nil, 11: {api.KAssign}, 13: nil,
	} {
		positions, _ := m.met(of(t, onLine(line, "")))
		var got []api.Kind
		for _, at := range positions {
			got = append(got, m.program.Tree.Nodes[m.events[at-1].Node].Kind)
		}
		if !slices.Equal(got, want) {
			t.Errorf("line %d: %v, want %v", line, got, want)
		}
	}
}
