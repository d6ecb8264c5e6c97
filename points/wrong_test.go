package points

import (
	"math"
	"slices"
	"strings"
	"testing"

	"retrace/api"
)

// P20.1: every kind, with and without each of what it may have.
func TestEveryPoint(t *testing.T) {
	names := []string{"", "a", "A", "z9_Z", "main", "_a", "9", "9a", "a ", " a", "a\n", "\na", "a#", "#", "a b", "a,b", "a-b", "a.b", "\"a\"", "a\x00", "\xffa", "é", "aé", "@", "a;", "(a)", "iff", "If", "IF", "f_n", "text1",
		strings.Repeat("n", 24), strings.Repeat("n", 25), strings.Repeat("n", 24) + " ", strings.Repeat(" ", api.MaxScan+1), "a" + strings.Repeat(" ", api.MaxScan)}
	names = append(names, strings.Fields(keywords)...)
	lines := []int{math.MinInt, -1 << 32, -1, 0, 1, 2, 300, 1 << 32, math.MaxInt}
	kinds := []api.PointKind{math.MinInt, -1, 0, 1, 2, 3, 4, 5, 1<<32 + 1, 1<<32 + 2, math.MaxInt}
	taken := make([]int, 4)
	for _, kind := range kinds {
		for _, line := range lines {
			for _, name := range names {
				for _, off := range []bool{false, true} {
					p := api.Point{Kind: kind, Line: line, Name: name, Off: off}
					table, model := New(), new(plain)
					got, errno := table.Add(p)
					if want, wanted := model.add(p); got != want || errno != wanted {
						t.Fatalf("%d %d %.40q: %d, %d, want %d, %d", kind, line, name, got, errno, want, wanted)
					}
					if got, _ := table.Get(1); errno == api.OK && got != p || errno != api.OK && got != (api.Point{}) {
						t.Fatalf("%+v is kept as %+v", p, got)
					}
					if errno == api.OK {
						taken[kind]++
					}
				}
			}
		}
	}
	// Lines from 1 on, each off or on; the names are a, A, z9_Z, main, iff, If, IF, f_n, text1 and the one of 24 bytes.
	if want := []int{0, 10, 20, 20}; !slices.Equal(taken, want) {
		t.Errorf("taken by kind: %v, want %v", taken, want)
	}
}

// P20.1: conditions that cannot be read, whatever is wrong with them, and such that can be, whether they can ever hold or not.
func TestConditions(t *testing.T) {
	refused := []string{" ", "\n", "# a", "a +", "+", "a b", "a = 1", "1 < 2 < 3", ")", "(", "a;", "$", "99999999999999999999", "01", `"`, `"\q"`, "f(,)", "if", "a[", "@1", "new int", "len a", "\x00", "\xff",
		strings.Repeat("n", 25), strings.Repeat("-", 40) + "x", `"` + strings.Repeat("x", 201) + `"`, "new [[[[[int]]]]][1]", strings.Repeat("(", 201), "a\x00"}
	taken := []string{"a", "1", "true", `"x"`, " a ", "a # so", "\ta\n", "f(x)", "f()", "new int[1]", "nobody == 1", "1 + true", "a[0][1] == b", "-1", "!x", "x / 0", "len(a) > str(b)", strings.Repeat("-", 39) + "x",
		strings.Repeat("(", 149) + "x" + strings.Repeat(")", 149), `"` + strings.Repeat("x", 200) + `"`, strings.Repeat("n", 24), "new [[[[int]]]][1]"}
	for _, p := range []api.Point{onLine(7, ""), onCall("f", ""), onChange("a", "")} {
		table := New()
		for _, text := range refused {
			p.Cond = text
			if got, errno := table.Add(p); got != 0 || errno != api.ErrExpr {
				t.Errorf("%q: %d, %d", text, got, errno)
			}
		}
		for n, text := range taken {
			p.Cond = text
			if got, errno := table.Add(p); got != n+1 || errno != api.OK {
				t.Errorf("%q: %d, %d, want %d", text, got, errno, n+1)
			}
		}
		if got := len(table.Numbers()); got != len(taken) {
			t.Errorf("%d points, want %d", got, len(taken))
		}
	}
}

// P20.1: of several errors the first one, in the chapter's order; what is refused takes no number.
func TestOrderOfErrors(t *testing.T) {
	full := New()
	for range api.MaxPoints {
		full.Add(onLine(1, ""))
	}
	long := strings.Repeat("(", api.MaxLine+1)
	for n, row := range []struct {
		table *Table
		point api.Point
		want  api.Errno
	}{
		{New(), onLine(0, "a +"), api.ErrArg}, {full, onLine(0, "a +"), api.ErrArg}, {full, onLine(0, ""), api.ErrArg}, {New(), onLine(1, long), api.ErrArg}, {full, onLine(1, long), api.ErrArg}, {New(), onCall("", "a +"), api.ErrArg}, {New(), onChange("to", long), api.ErrArg},
		{New(), onLine(1, "a +"), api.ErrExpr}, {full, onLine(1, "a +"), api.ErrExpr}, {full, onCall("f", " "), api.ErrExpr},
		{full, onLine(1, ""), api.ErrSize}, {full, onLine(1, "a"), api.ErrSize}, {full, onChange("a", "1 + true"), api.ErrSize}, {full, api.Point{Kind: api.PtFunc, Name: "f", Off: true}, api.ErrSize},
		{full, api.Point{}, api.ErrArg}, {New(), api.Point{}, api.ErrArg}, {New(), api.Point{Off: true}, api.ErrArg}, {New(), api.Point{Line: 1}, api.ErrArg}, {New(), api.Point{Name: "a"}, api.ErrArg},
	} {
		before := row.table.Numbers()
		if got, errno := row.table.Add(row.point); got != 0 || errno != row.want {
			t.Errorf("row %d: %d, %d, want %d", n+1, got, errno, row.want)
		}
		if !slices.Equal(row.table.Numbers(), before) {
			t.Errorf("row %d: what was refused is there", n+1)
		}
		if row.table == full {
			continue
		}
		if got, errno := row.table.Add(onLine(1, "")); got != 1 || errno != api.OK {
			t.Errorf("row %d: behind it %d, %d", n+1, got, errno)
		}
	}
	full.Delete(9)
	if got, errno := full.Add(onLine(1, "")); got != 33 || errno != api.OK {
		t.Errorf("behind all that was refused: %d, %d", got, errno)
	}
}

// P20.3: a condition that cannot be told does not hold, and keeps no other point from being met.
func TestMisfits(t *testing.T) {
	p := checked(t, sample)
	e := api.Event{Kind: api.EvStmt, Node: 4}
	arrays := [][]api.Value{nil, {number(5)}}
	first := api.Value{Kind: api.ValRef, Int: 1}
	for n, row := range []struct {
		text   string
		frames []api.Frame
		holds  bool
	}{
		{"", nil, true}, {"true", nil, true}, {"1 + 1 == 2", []api.Frame{}, true}, {"a == 1", seeing("a", "int", number(1)), true}, {"a[0] == 5", seeing("a", "[int]", first), true}, {"len(a) == 1 || a[9] == 1", seeing("a", "[int]", first), true},
		{"false", seeing("a", "int", number(1)), false}, {"a", seeing("a", "int", number(1)), false}, {"a + 1", seeing("a", "int", number(1)), false}, {"a == 77", seeing("a", "int", number(1)), false},
		{"b == 1", seeing("a", "int", number(1)), false}, {"a == 77", []api.Frame{{}, seeing("a", "int", number(1))[1]}, false}, {"a == 1", nil, false}, {"a == 1", []api.Frame{}, false}, {"a == 0", []api.Frame{{}}, false},
		{"a + true", seeing("a", "int", number(1)), false}, {"f(1) == 1", seeing("f", "int", number(1)), false}, {"new int[1] != a", seeing("a", "[int]", first), false},
		{"a / 0 == 1", seeing("a", "int", number(1)), false}, {"a[1] == 5", seeing("a", "[int]", first), false}, {"a[0] == 6", seeing("a", "[int]", first), false},
		{"a == 1", seeing("a", "int", api.Value{Kind: api.ValText, Text: "q"}), false}, {"len(a) == 0", seeing("a", "[int]", api.Value{Kind: api.ValRef, Int: 2}), false},
	} {
		want, behind := 0, 2
		if row.holds {
			want, behind = 1, 1
		}
		if got := of(t, onLine(2, row.text)).Match(p, e, row.frames, arrays); got != want {
			t.Errorf("row %d: %q alone: %d, want %d", n+1, row.text, got, want)
		}
		if got := of(t, onLine(2, row.text), onLine(2, "true")).Match(p, e, row.frames, arrays); got != behind {
			t.Errorf("row %d: %q, with a point behind: %d, want %d", n+1, row.text, got, behind)
		}
	}
}
