package points

import (
	"slices"
	"strings"
	"testing"

	"retrace/api"
)

// P20.1: as many points as a table may have, and one more; whether they are on does not count.
func TestFull(t *testing.T) {
	table := New()
	for n := 1; n <= api.MaxPoints; n++ {
		p := onLine(n, "")
		p.Off = n%3 == 0
		if got, errno := table.Add(p); got != n || errno != api.OK {
			t.Fatalf("point %d: %d, %d", n, got, errno)
		}
	}
	for range 3 {
		if got, errno := table.Add(onLine(1, "")); got != 0 || errno != api.ErrSize {
			t.Errorf("one point too many: %d, %d", got, errno)
		}
	}
	for n, gone := range []int{1, api.MaxPoints, 16, api.MaxPoints + 1, api.MaxPoints + 4} {
		if errno := table.Delete(gone); errno != api.OK {
			t.Errorf("Delete(%d) = %d", gone, errno)
		}
		if got, errno := table.Add(onLine(1, "")); got != api.MaxPoints+1+n || errno != api.OK {
			t.Errorf("in its place: %d, %d", got, errno)
		}
		if got, errno := table.Add(onLine(1, "")); got != 0 || errno != api.ErrSize {
			t.Errorf("one point too many: %d, %d", got, errno)
		}
	}
	if got := table.Numbers(); len(got) != api.MaxPoints || !slices.IsSorted(got) || got[0] != 2 || got[api.MaxPoints-1] != 37 {
		t.Errorf("Numbers = %v", got)
	}
}

// P20.1: a number is never given again, however many points come and go.
func TestNumbersRise(t *testing.T) {
	table := New()
	p := checked(t, sample)
	e := api.Event{Kind: api.EvStmt, Node: 4}
	for n := 1; n <= rounds(100000); n++ {
		if got, errno := table.Add(onLine(2, "")); got != n || errno != api.OK {
			t.Fatalf("%d: %d, %d", n, got, errno)
		}
		if got := table.Match(p, e, nil, nil); got != n {
			t.Fatalf("Match = %d, want %d", got, n)
		}
		if got := table.Numbers(); !slices.Equal(got, []int{n}) {
			t.Fatalf("Numbers = %v, want %d", got, n)
		}
		if errno := table.Delete(n); errno != api.OK {
			t.Fatalf("Delete(%d) = %d", n, errno)
		}
	}
}

// P20.1: names and conditions as long as they may be, and one byte longer.
func TestLongest(t *testing.T) {
	p := checked(t, sample)
	e := api.Event{Kind: api.EvStmt, Node: 4}
	for _, row := range []struct {
		point api.Point
		want  api.Errno
	}{
		{onCall(strings.Repeat("n", api.MaxName), ""), api.OK}, {onCall(strings.Repeat("n", api.MaxName+1), ""), api.ErrArg},
		{onChange(strings.Repeat("n", api.MaxName), ""), api.OK}, {onChange(strings.Repeat("n", api.MaxName+1), ""), api.ErrArg},
		{onLine(2, strings.Repeat(" ", api.MaxLine-4)+"true"), api.OK}, {onLine(2, strings.Repeat(" ", api.MaxLine-3)+"true"), api.ErrArg},
		{onLine(2, "true#"+strings.Repeat("(", api.MaxLine-5)), api.OK}, {onLine(2, "true#"+strings.Repeat("(", api.MaxLine-4)), api.ErrArg},
		{onLine(2, strings.Repeat("(", api.MaxLine)), api.ErrExpr}, {onLine(2, strings.Repeat("(", api.MaxLine+1)), api.ErrArg}, {onLine(2, strings.Repeat(" ", api.MaxScan+1)), api.ErrArg},
	} {
		table := New()
		if _, errno := table.Add(row.point); errno != row.want {
			t.Errorf("%d %q, %d bytes: %d, want %d", row.point.Kind, row.point.Name, len(row.point.Cond), errno, row.want)
		}
		want := 0
		if row.want == api.OK && row.point.Kind == api.PtLine {
			want = 1
		}
		if got := table.Match(p, e, nil, nil); got != want {
			t.Errorf("%d bytes of condition: Match = %d, want %d", len(row.point.Cond), got, want)
		}
	}
}

// P20.4, P20.6: far more nodes than a tree may have, texts far longer than a source may be, many frames and variables.
func TestLarge(t *testing.T) {
	const count = 1000000
	nodes := make([]api.Node, count)
	nodes[0] = api.Node{Kind: api.KFunc, Name: "far"}
	for n := 1; n < count; n++ {
		nodes[n] = api.Node{Kind: api.KBlock, At: n * 2}
	}
	nodes[count-1].Kind = api.KParam
	p := api.Program{Text: strings.Repeat("x\n", count), Tree: api.Tree{Nodes: nodes}}
	vars := make([]api.Shown, 0, count)
	for range count - 1 {
		vars = append(vars, api.Shown{Var: api.Var{Name: "a", Type: "bool"}})
	}
	vars = append(vars, api.Shown{Var: api.Var{Name: "a", Type: "int"}, Value: number(5)})
	frames := make([]api.Frame, count)
	frames[0].Vars = vars
	table := of(t, onCall("far", ""), onLine(count, "a == 5"), onLine(count/2, "a == 6"), onLine(count/2, ""))
	for _, row := range []struct {
		event api.Event
		want  int
	}{
		{api.Event{Kind: api.EvSet, Node: count - 1}, 1}, {api.Event{Kind: api.EvStmt, Node: count - 1}, 2}, {api.Event{Kind: api.EvStmt, Node: count/2 - 1}, 4}, {api.Event{Kind: api.EvStmt, Node: count - 2}, 0}, {api.Event{Kind: api.EvStmt, Node: count}, 0},
	} {
		if got := table.Match(p, row.event, frames, nil); got != row.want {
			t.Errorf("%+v: %d, want %d", row.event, got, row.want)
		}
	}
}
