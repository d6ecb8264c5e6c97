package query

import (
	"testing"

	"retrace/api"
	"retrace/view"
)

// smalls are programs in which much can be confused.
var smalls = []string{
	"fn main() { }",
	"fn main() { var x: int = 1; { x = 2; var x: int = 3; x = 4; } }",
	"fn f(x: int): int { return x; } fn main() { var x: int = f(0); read x; f(x); }",
	"fn main() { var x: int = 0; main(); return; }",
	"fn main() { for x = 1 to 2 { for x = 3 to 4 { x = 5; } } }",
	"fn f() { var x: int = 1; g(); } fn g() { var x: int = 2; f(); } fn main() { f(); g(); }",
	"fn main() { var a: [int] = new int[2]; @1 a; a[0] = 1; @2; if true { read a[1]; } else { var a: int = 1; } return @3; }",
}

// offers are events, of which those that can follow are among, with a value that no other event of the record has.
func offers(p api.Program, n int) []api.Event {
	var all []api.Event
	for node, one := range p.Tree.Nodes {
		name := one.Name
		for below := node + 1; name == "" && below < node+one.Size; below++ {
			name = p.Tree.Nodes[below].Name
		}
		for _, kind := range []api.EventKind{api.EvStmt, api.EvEnter, api.EvExit, api.EvLeave, api.EvReturn} {
			all = append(all, api.Event{Kind: kind, Node: node})
		}
		all = append(all, api.Event{Kind: api.EvCall, Node: node, Name: name}, api.Event{Kind: api.EvReturn, Node: node, Value: number(int64(n))})
		for _, v := range []api.Value{number(int64(n)), reference(0)} {
			all = append(all, api.Event{Kind: api.EvSet, Node: node, Name: name, Value: v}, api.Event{Kind: api.EvTouch, Node: node, Name: name, Value: v})
		}
	}
	return all
}

// everyRecord asks of all records that go on from one by at most so many events; how many there are is answered.
func everyRecord(t *testing.T, p api.Program, v *view.View, r api.Record, left int) int {
	t.Helper()
	agreesAt(t, p, r, len(r.Events), len(r.Events)-1)
	if left == 0 {
		return 1
	}
	count := 1
	for _, e := range offers(p, len(r.Events)+1) {
		next := v.Clone()
		if next.Take(e) == api.OK {
			longer := of(append(r.Events[:len(r.Events):len(r.Events)], e)...)
			count += everyRecord(t, p, next, longer, left-1)
		}
	}
	return count
}

// P26.1 to P26.5: all short records that fit a small program.
func TestEveryRecord(t *testing.T) {
	most := 6
	if testing.Short() {
		most = 4
	}
	count := 0
	for _, source := range smalls {
		p := hooked(t, source)
		v, errno := view.New(p)
		if errno != api.OK {
			t.Fatal(errno)
		}
		count += everyRecord(t, p, v, of(), most)
	}
	if count < 500 {
		t.Errorf("%d records", count)
	}
}

// P26.1 to P26.5: at each state of the small programs' runs, each event that is offered goes on with it or does not fit; then no question is answered.
func TestEveryNext(t *testing.T) {
	fit, not := 0, 0
	for _, source := range smalls {
		p, run := kept(t, source, 12, 7)
		for n := range run.Events {
			for _, e := range append(offers(p, n), api.Event{}, stmt(-1), stmt(len(p.Tree.Nodes)), enter(1<<62), call(0, ""), api.Event{Kind: -1, Node: 1}, api.Event{Kind: 9, Node: 1}) {
				r := of(append(run.Events[:n:n], e)...)
				if _, errno := Frames(p, r, 0); errno == api.OK {
					fit++
				} else {
					not++
				}
				refuses(t, p, r, true)
			}
		}
	}
	if fit < 50 || not < 500 {
		t.Errorf("%d fit, %d do not", fit, not)
	}
}
