package cond

import (
	"strings"
	"testing"

	"retrace/api"
)

// P19.2, P19.7: as deep as an expression may be nested, and one deeper.
func TestDeepExpressions(t *testing.T) {
	vars := []api.Shown{v("x", "int", i(1)), v("y", "bool", b(0)), v("t", "text", x("a")), v("a", "[int]", r(1))}
	arrays := [][]api.Value{nil, {i(0), i(1)}}
	for _, row := range []struct {
		before, core, behind string
		most                 int
		want                 api.Value
	}{
		{"-", "x", "", 39, i(-1)},
		{"!", "y", "", 39, b(1)},
		{"", "x", " + x", 39, i(40)},
		{"x + (", "x", ")", 39, i(40)},
		{"", "t", " + t", 39, x(strings.Repeat("a", 40))},
		{"y || (", "y", ")", 39, b(0)},
		{"", "y", " || y", 39, b(0)},
		{"a[", "1", "]", 39, i(1)},
		{"str(", "x", ")", 39, x("1")},
		{"(", "x", ")", 200, i(1)},
	} {
		text := strings.Repeat(row.before, row.most) + row.core + strings.Repeat(row.behind, row.most)
		if got, errno := Eval(text, vars, arrays); got != row.want || errno != api.OK {
			t.Errorf("%s: %v, %d, want %v", text, got, errno, row.want)
		}
		text = row.before + text + row.behind
		if got, errno := Eval(text, vars, arrays); got != (api.Value{}) || errno != api.ErrDeep {
			t.Errorf("%s: %v, %d", text, got, errno)
		}
	}
}

// sum is a balanced sum of so many x.
func sum(count int) string {
	if count == 1 {
		return "x"
	}
	return "(" + sum(count/2) + "+" + sum(count-count/2) + ")"
}

// P19.7: as many nodes as a tree may have, over many variables.
func TestManyNodes(t *testing.T) {
	const count = api.MaxTree / 2
	vars := make([]api.Shown, 0, 100001)
	for range 100000 {
		vars = append(vars, v("x", "text", x("q")), v("y", "void", i(1)))
	}
	vars = append(vars, v("x", "int", i(3)))
	if got, errno := Eval(sum(count), vars, nil); got != i(3*count) || errno != api.OK {
		t.Errorf("%v, %d", got, errno)
	}
	if got, errno := Eval("-"+sum(count), vars, nil); got != i(-3*count) || errno != api.OK {
		t.Errorf("%v, %d", got, errno)
	}
	if got, errno := Eval("--"+sum(count), vars, nil); got != (api.Value{}) || errno != api.ErrSize {
		t.Errorf("one node too many: %v, %d", got, errno)
	}
}

// P19.1: as long as a text may be, and one byte longer.
func TestLongTexts(t *testing.T) {
	vars := []api.Shown{v("x", "int", i(3))}
	text := strings.Repeat(" ", api.MaxScan-1) + "x"
	if got, errno := Eval(text, vars, nil); got != i(3) || errno != api.OK {
		t.Errorf("%v, %d", got, errno)
	}
	if got, errno := Eval(text+" ", vars, nil); got != (api.Value{}) || errno != api.ErrSize {
		t.Errorf("one byte too many: %v, %d", got, errno)
	}
	if typing, problem := Check(text+" ", declared(vars)); typing != "" || problem.Code != api.ErrSize {
		t.Errorf("one byte too many: %q, %v", typing, problem)
	}
	if Holds(strings.Repeat(" ", api.MaxScan+1), vars, nil) {
		t.Errorf("blanks hold")
	}
}

// P19.2: texts just as long as they may be, joined to one just as long, or longer by one.
func TestJoined(t *testing.T) {
	for first := 0; first <= api.MaxText; first += 16 {
		for second := api.MaxText - first - 1; second <= min(api.MaxText-first+1, api.MaxText); second++ {
			if second < 0 {
				continue
			}
			vars := []api.Shown{v("s", "text", x(strings.Repeat("s", first))), v("t", "text", x(strings.Repeat("t", second)))}
			got, errno := Eval("s + t", vars, nil)
			switch fits := first+second <= api.MaxText; {
			case fits && (got != x(strings.Repeat("s", first)+strings.Repeat("t", second)) || errno != api.OK):
				t.Errorf("%d and %d bytes: %d", first, second, errno)
			case !fits && (got != (api.Value{}) || errno != api.ErrTrap):
				t.Errorf("%d and %d bytes: %v, %d", first, second, got, errno)
			}
		}
	}
}

// P19.2, P19.4: lists far longer than any heap's.
func TestLongLists(t *testing.T) {
	const length = 1000000
	long := make([]api.Value, length)
	for n := range long {
		long[n] = i(int64(n))
	}
	many := make([][]api.Value, length)
	many[length-1] = long
	vars := []api.Shown{v("a", "[int]", r(length-1))}
	for text, want := range map[string]api.Value{"len(a)": i(length), "a[999999]": i(length - 1), "a[a[a[7]]]": i(7)} {
		if got, errno := Eval(text, vars, many); got != want || errno != api.OK {
			t.Errorf("%s: %v, %d", text, got, errno)
		}
	}
	for text, errno := range map[string]api.Errno{"a[1000000]": api.ErrTrap, "a[-1]": api.ErrTrap} {
		if e := evalErrno(text, vars, many); e != errno {
			t.Errorf("%s: %d", text, e)
		}
	}
	if errno := evalErrno("a", vars, many[1:]); errno != api.ErrArg {
		t.Errorf("an array too few: %d", errno)
	}
	if got := Deep(r(length-1), many, 4); got != "[0, 1, 2, 3, 4, 5, 6, 7, 8, 9, 10, 11, 12, 13, 14, 15, ..]" {
		t.Error(got)
	}
	if got := Deep(r(length), many, 4); got != "#1000000" {
		t.Error(got)
	}
}

// P19.4, P19.7: the most that can be shown: an array of itself, and the longest texts in arrays of arrays.
func TestDeepest(t *testing.T) {
	own := make([]api.Value, 17)
	want := "#0"
	for n := range own {
		own[n] = r(0)
	}
	for range 4 {
		want = "[" + strings.Repeat(want+", ", 16) + "..]"
	}
	if got := Deep(r(0), [][]api.Value{own}, 1<<40); got != want {
		t.Errorf("an array of itself: %d bytes, want %d", len(got), len(want))
	}
	if testing.Short() {
		return
	}
	arrays := make([][]api.Value, 4)
	for n := range arrays {
		arrays[n] = make([]api.Value, 16)
		for at := range arrays[n] {
			arrays[n][at] = r(int64(n + 1))
			if n == 3 {
				arrays[n][at] = x(strings.Repeat("\xff", api.MaxText))
			}
		}
	}
	shown := `"` + strings.Repeat(`\xff`, api.MaxText) + `"`
	for range 4 {
		shown = "[" + strings.Repeat(shown+", ", 15) + shown + "]"
	}
	if got := Deep(r(0), arrays, 4); got != shown {
		t.Errorf("the longest texts: %d bytes, want %d", len(got), len(shown))
	}
}
