package monitor

import (
	"math"
	"reflect"
	"testing"

	"retrace/api"
	"retrace/events"
)

// own is a value with lists of its own; each list is handed to a function, if there is one, ahead of what lies in it.
func own(v reflect.Value, list func(reflect.Value) reflect.Value) reflect.Value {
	twin := reflect.New(v.Type()).Elem()
	switch v.Kind() {
	case reflect.Struct:
		for n := range v.NumField() {
			twin.Field(n).Set(own(v.Field(n), list))
		}
	case reflect.Slice:
		twin.Set(reflect.MakeSlice(v.Type(), v.Len(), v.Len()))
		for n := range v.Len() {
			twin.Index(n).Set(own(v.Index(n), list))
		}
		if list != nil {
			twin.Set(list(twin))
		}
	default:
		twin.Set(v)
	}
	return twin
}

func ownBuilt(b events.Built, list func(reflect.Value) reflect.Value) events.Built {
	return own(reflect.ValueOf(b), list).Interface().(events.Built)
}

func refused(t *testing.T, what string, b events.Built, input []int64, l api.Limits, budget int, want api.Errno) {
	t.Helper()
	if m, errno := New(b, input, l, budget); m != nil || errno != want {
		t.Errorf("P22.1: %s: %v, %d, want %d", what, m, errno, want)
	}
}

// P22.1: a Built that is not just what Build makes of its text, whatever the budget.
func TestNotBuilt(t *testing.T) {
	for what, spoil := range map[string]func(*events.Built){
		"nothing":             func(b *events.Built) { *b = events.Built{} },
		"another text":        func(b *events.Built) { b.Program.Text = "fn main() { }" },
		"a blank more":        func(b *events.Built) { b.Program.Text = " " + b.Program.Text },
		"a text that is none": func(b *events.Built) { b.Program.Text = "fn main() {" },
		"no tree":             func(b *events.Built) { b.Program.Tree.Nodes = nil },
		"another offset":      func(b *events.Built) { b.Program.Tree.Nodes[3].At++ },
		"another slot":        func(b *events.Built) { b.Program.Scoped.Slots[2]++ },
		"another type":        func(b *events.Built) { b.Program.Types[len(b.Program.Types)-1] = "int" },
		"another instruction": func(b *events.Built) { b.Code.Instrs[0].Op = api.InNop },
		"another pool":        func(b *events.Built) { b.Code.Texts[0] = "no" },
		"a row more":          func(b *events.Built) { b.Table = append(b.Table, api.Hook{Kind: api.EvStmt}) },
		"another row":         func(b *events.Built) { b.Table[2].Name = "y" },
		"no table":            func(b *events.Built) { b.Table = nil },
	} {
		b := built(t, adding)
		spoil(&b)
		for _, budget := range []int{-1, 0, 1000, api.MaxBudget + 1} {
			refused(t, what, b, nil, enough, budget, api.ErrArg)
		}
	}
}

// P22.1: inputs, limits and budgets that may not be, in their order, and those at the edge that may.
func TestNewEdges(t *testing.T) {
	b := built(t, adding)
	for _, budget := range []int{1000, api.MaxBudget + 1, math.MaxInt} {
		for _, l := range []api.Limits{{}, {Depth: 0, Cells: 5}, {Depth: -1}, {Depth: 1001}, {Depth: math.MaxInt}, {Depth: 1, Cells: -1}, {Depth: 1, Cells: 100001}, {Depth: 1, Cells: math.MinInt}} {
			refused(t, "limits", b, nil, l, budget, api.ErrArg)
		}
		refused(t, "input", b, make([]int64, 1001), enough, budget, api.ErrArg)
	}
	for _, budget := range []int{api.MaxBudget + 1, api.MaxBudget + 2, math.MaxInt32, math.MaxInt} {
		refused(t, "budget", b, nil, enough, budget, api.ErrSize)
	}
	for _, l := range []api.Limits{{Depth: 1}, {Depth: 1000, Cells: 100000}} {
		for _, budget := range []int{math.MinInt, -1, 0, 1, api.MaxBudget - 1, api.MaxBudget} {
			m, errno := New(b, make([]int64, 1000), l, budget)
			if errno != api.OK || m == nil {
				t.Fatalf("P22.1: budget %d: %d", budget, errno)
			}
			numbers, list := m.Points()
			if last, some := m.Last(); m.At() != 0 || some || last != (api.Event{}) || len(m.Frames()) != 0 || len(numbers) != 0 || len(list) != 0 {
				t.Errorf("P22.1: budget %d: it stands at %d, points %v", budget, m.At(), list)
			}
		}
	}
}

// P22.1: a budget below 0 leads nowhere, as 0 does; going back has none.
func TestNoBudget(t *testing.T) {
	for _, budget := range []int{math.MinInt, -1000, -1, 0} {
		m := monitorOf(t, adding, budget, 3)
		for _, kind := range movements[:4] {
			goes(t, m, moved{kind, 0, api.StopBudget, 0, 0, api.ErrBudget})
		}
		goes(t, m, moved{api.CmGoto, 1, api.StopBudget, 0, 0, api.ErrBudget}, moved{api.CmGoto, 0, api.StopGoto, 0, 0, api.OK}, moved{api.CmBack, 0, 0, 0, 0, api.ErrStart})
	}
	m := monitorOf(t, "fn main() { }", 1)
	goes(t, m, moved{api.CmContinue, 0, api.StopBudget, 1, 0, api.ErrBudget}, moved{api.CmContinue, 0, api.StopBudget, 2, 0, api.ErrBudget}, moved{api.CmContinue, 0, api.StopEnd, 2, 0, api.OK}, moved{api.CmRfinish, 0, api.StopStep, 2, 0, api.OK})
}

// commandsOfAll are commands of all kinds, right and wrong, with fields that are zero or not.
func commandsOfAll() []api.Command {
	var all []api.Command
	points := []api.Point{{}, onLine(2, ""), onLine(2, "a == 3"), onLine(0, ""), onLine(2, "a +"), onLine(-1, ""), onCall("add", ""), onCall("if", ""), onCall("", ""), onChange("x", ""), onChange("x", ")"), onChange("x y", ""), {Kind: 4}, {Kind: -1}, {Kind: 0, Line: 1}, {Name: "x"}, {Cond: "x"}, {Off: true}, {Kind: api.PtLine, Line: 3, Off: true}, {Kind: api.PtWatch, Name: "x", Line: 1}, {Kind: api.PtLine, Line: 2, Name: "x"}}
	for kind := api.CommandKind(-2); kind <= 25; kind++ {
		for _, n := range []int{0, 1, -1, 7, math.MaxInt, math.MinInt} {
			for _, text := range []string{"", "x", " "} {
				for _, p := range points {
					all = append(all, api.Command{Kind: kind, Point: p, N: n, Text: text})
				}
			}
		}
	}
	return append(all, api.Command{Kind: math.MaxInt}, api.Command{Kind: math.MinInt})
}

// P22.2, P22.7: which commands are for Move and for Set; one that is refused changes nothing.
func TestAllCommands(t *testing.T) {
	r := plainly(t, adding, enough, 100, 3)
	moving, setting := 0, 0
	for _, at := range []int{0, 9, 16} {
		p := r.pair(t, 1000)
		p.comes(at, false)
		for _, c := range commandsOfAll() {
			if told := p.moves(c); told.errno != api.ErrArg {
				moving++
			} else if told.stop != (api.Stop{}) {
				t.Fatalf("P22.2: %+v: %+v", c, told)
			}
			if p.plain.over || p.plain.at != at {
				p.stands()
				p.comes(at, false)
			}
			if _, errno := p.sets(c); errno != api.ErrArg {
				setting++
			}
			p.hasPoints()
			if list := p.plain.table.Numbers(); len(list) > 20 {
				p.sets(api.Command{Kind: api.CmDelete, N: list[0]})
			}
		}
		p.stands()
	}
	if moving != 3*(8+6) || setting == 0 {
		t.Errorf("%d commands move, %d set", moving, setting)
	}
}

// P22.2: with an error other than ErrBudget nothing has moved, at the end and at the beginning too.
func TestNothingMoved(t *testing.T) {
	r := plainly(t, adding, enough, 100, 3)
	for place := range r.places() {
		p := r.known(t, []api.Point{onLine(2, "")}, min(place, r.last()), place > r.last())
		for _, c := range []api.Command{{}, {Kind: api.CmBreak}, {Kind: api.CmStep, N: 1}, {Kind: api.CmBack, Text: "x"}, {Kind: api.CmGoto, N: 3, Point: onLine(1, "")}, {Kind: api.CmEvent}, {Kind: api.CmPoints}} {
			if told := p.moves(c); told.errno != api.ErrArg {
				t.Errorf("P22.2: %+v: %+v", c, told)
			}
			p.stands()
		}
		if p.plain.over {
			for _, c := range []api.Command{{Kind: api.CmStep}, {Kind: api.CmNext}, {Kind: api.CmFinish}, {Kind: api.CmContinue}, {Kind: api.CmGoto, N: 17}} {
				if told := p.moves(c); told.errno != api.ErrOver {
					t.Errorf("P22.3: %+v: %+v", c, told)
				}
				p.stands()
			}
		}
	}
}

// P22.11: a Monitor that New has not made has nothing to go through; no call of it panics.
func TestZeroMonitor(t *testing.T) {
	for _, c := range commandsOfAll() {
		var m Monitor
		for range 3 {
			m.Move(c)
			m.Set(c)
			m.Move(api.Command{Kind: api.CmRcontinue})
			m.Points()
		}
		if last, some := m.Last(); m.At() != 0 || some || last != (api.Event{}) || len(m.Frames()) != 0 || m.Result().Steps != 0 {
			t.Fatalf("%+v: the zero monitor has moved", c)
		}
	}
}

// P22.1: a list that is empty may be nil or not.
func TestEmptyLists(t *testing.T) {
	empties := 0
	for _, list := range []func(reflect.Value) reflect.Value{
		func(v reflect.Value) reflect.Value {
			if v.Len() == 0 {
				empties++
				return reflect.Zero(v.Type())
			}
			return v
		},
		nil, // makes an empty list of one that is nil
	} {
		m, errno := New(ownBuilt(built(t, "fn f() { } fn main() { f(); }"), list), []int64{}, enough, 100)
		if errno != api.OK {
			t.Fatalf("P22.1: %d", errno)
		}
		sets(t, m, api.Command{Kind: api.CmBreak, Point: onCall("f", "")}, 1, api.OK)
		goes(t, m, moved{api.CmContinue, 0, api.StopPoint, 3, 1, api.OK}, moved{api.CmContinue, 0, api.StopEnd, 5, 0, api.OK})
	}
	if empties == 0 {
		t.Errorf("there was no empty list")
	}
}
