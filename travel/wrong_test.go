package travel

import (
	"math"
	"reflect"
	"testing"

	"retrace/api"
	"retrace/events"
)

// own is a value with lists of its own; each list is handed to a function, if there is one, ahead of what lies in it.
func own(v reflect.Value, list func(reflect.Value) reflect.Value) reflect.Value {
	twin := reflect.New(v.Type()).Elem()
	switch v.Kind() {
	case reflect.Struct:
		for n := range v.NumField() {
			twin.Field(n).Set(own(v.Field(n), list))
		}
	case reflect.Slice:
		twin.Set(reflect.MakeSlice(v.Type(), v.Len(), v.Len()))
		for n := range v.Len() {
			twin.Index(n).Set(own(v.Index(n), list))
		}
		if list != nil {
			twin.Set(list(twin))
		}
	default:
		twin.Set(v)
	}
	return twin
}

func ownBuilt(b events.Built, list func(reflect.Value) reflect.Value) events.Built {
	return own(reflect.ValueOf(b), list).Interface().(events.Built)
}

// built is DOC.md's program, as memory of its own.
func built(t testing.TB) events.Built {
	t.Helper()
	b, problem := events.Build(adding)
	if problem.Code != api.OK {
		t.Fatal(problem)
	}
	return b
}

func refused(t *testing.T, what string, b events.Built, input []int64, l api.Limits, every int) {
	t.Helper()
	if e, errno := New(b, input, l, every); e != nil || errno != api.ErrArg {
		t.Errorf("P21.1: %s: %v, %d", what, e, errno)
	}
}

// P21.1: a Built that is not just what Build makes of its text.
func TestNotBuilt(t *testing.T) {
	for what, spoil := range map[string]func(*events.Built){
		"nothing":               func(b *events.Built) { *b = events.Built{} },
		"another text":          func(b *events.Built) { b.Program.Text = "fn main() { }" },
		"a blank more":          func(b *events.Built) { b.Program.Text = " " + b.Program.Text },
		"a text that is none":   func(b *events.Built) { b.Program.Text = "fn main() {" },
		"no tree":               func(b *events.Built) { b.Program.Tree.Nodes = nil },
		"another offset":        func(b *events.Built) { b.Program.Tree.Nodes[3].At++ },
		"another name":          func(b *events.Built) { b.Program.Tree.Nodes[1].Name = "sub" },
		"another slot":          func(b *events.Built) { b.Program.Scoped.Slots[2]++ },
		"no functions":          func(b *events.Built) { b.Program.Scoped.Funcs = nil },
		"a type less":           func(b *events.Built) { b.Program.Types = b.Program.Types[1:] },
		"another type":          func(b *events.Built) { b.Program.Types[len(b.Program.Types)-1] = "int" },
		"another instruction":   func(b *events.Built) { b.Code.Instrs[0].Op = api.InNop },
		"an instruction less":   func(b *events.Built) { b.Code.Instrs = b.Code.Instrs[:len(b.Code.Instrs)-1] },
		"another main":          func(b *events.Built) { b.Code.Main = 0 },
		"another pool":          func(b *events.Built) { b.Code.Texts[0] = "no" },
		"another entry":         func(b *events.Built) { b.Code.Entrys[0].Sorts[0] = 3 },
		"a row more":            func(b *events.Built) { b.Table = append(b.Table, api.Hook{Kind: api.EvStmt}) },
		"a row less":            func(b *events.Built) { b.Table = b.Table[:len(b.Table)-1] },
		"another row":           func(b *events.Built) { b.Table[2].Name = "y" },
		"a row that may not be": func(b *events.Built) { b.Table[2].Kind = 99 },
		"no table":              func(b *events.Built) { b.Table = nil },
		"the code without hooks": func(b *events.Built) {
			other, _ := events.Build("fn main() { }")
			b.Code = other.Code
		},
	} {
		b := built(t)
		spoil(&b)
		refused(t, what, b, nil, enough, 0)
		refused(t, what, b, nil, enough, 1)
	}
}

// P21.1: inputs, limits and gaps that may not be, and those at the edge that may.
func TestNewEdges(t *testing.T) {
	b := built(t)
	for _, l := range []api.Limits{{}, {Depth: 0, Cells: 5}, {Depth: -1}, {Depth: 1001}, {Depth: math.MinInt}, {Depth: math.MaxInt}, {Depth: 1, Cells: -1}, {Depth: 1, Cells: 100001}, {Depth: 1, Cells: math.MinInt}, {Depth: 1, Cells: math.MaxInt}} {
		refused(t, "limits", b, nil, l, 0)
	}
	refused(t, "input", b, make([]int64, 1001), enough, 0)
	for _, every := range []int{-1, -2, math.MinInt} {
		refused(t, "every", b, nil, enough, every)
	}
	refused(t, "all", events.Built{}, make([]int64, 1001), api.Limits{}, -1)
	for _, l := range []api.Limits{{Depth: 1}, {Depth: 1000, Cells: 100000}} {
		for _, every := range []int{0, 1, 2, 1000, api.MaxBudget, api.MaxBudget + 1, api.MaxEvents + 1, math.MaxInt / 2, math.MaxInt} {
			e, errno := New(b, make([]int64, 1000), l, every)
			if errno != api.OK || e.At() != 0 || e.Steps() != 0 {
				t.Errorf("P21.1: every %d: %v, %d", every, e, errno)
			}
		}
	}
}

// P21.1: a list that is empty may be nil or not.
func TestEmptyLists(t *testing.T) {
	empties := 0
	for _, list := range []func(reflect.Value) reflect.Value{
		func(v reflect.Value) reflect.Value {
			if v.Len() == 0 {
				empties++
				return reflect.Zero(v.Type())
			}
			return v
		},
		nil, // makes an empty list of one that is nil
	} {
		b, _ := events.Build("fn f() { } fn main() { f(); }")
		e, errno := New(ownBuilt(b, list), []int64{}, enough, 1)
		if errno != api.OK {
			t.Fatalf("P21.1: %d", errno)
		}
		goes(t, e, forward{1, api.EvCall, 1, api.OK}, forward{1, api.EvStmt, 1, api.OK}, forward{9, api.EvCall, 2, api.OK}, forward{9, api.EvLeave, 1, api.OK}, forward{9, api.EvLeave, 2, api.OK}, forward{9, 0, 1, api.ErrOver})
	}
	if empties == 0 {
		t.Errorf("there was no empty list")
	}
}

// P21.3 to P21.5, P21.9: numbers of all sizes, at all places of a run.
func TestAllNumbers(t *testing.T) {
	numbers := []int{math.MinInt, math.MinInt + 1, math.MinInt32, -1000001, -1000000, -2, -1, 17, 18, 99, 999999, 1000000, 1000001, math.MaxInt32, math.MaxInt - 1, math.MaxInt}
	for _, r := range someRuns(t)[:5] {
		for _, every := range []int{0, 1, math.MaxInt} {
			p := r.pair(t, every)
			for step := 0; step < 20 && r.isKnown(p.plain.at); step++ {
				here := p.plain
				for _, n := range numbers {
					p.seen(n)
					p.forward(n)
					p.stands()
					p.comes(here.at, here.over)
					p.back(n)
					p.stands()
					p.comes(here.at, here.over)
				}
				p.forward(1000)
			}
		}
	}
}

// An Engine that New has not made has nothing to go through; no call of it panics.
func TestZeroEngine(t *testing.T) {
	for _, budget := range []int{-1, 0, 1, 1000000, 1000001} {
		var e Engine
		for range 3 {
			event, done, errno := e.Forward(budget)
			if event != (api.Event{}) || errno == api.OK || done != 0 && errno != api.ErrBudget {
				t.Errorf("Forward(%d) = %+v, %d, %d", budget, event, done, errno)
			}
			for at := -1; at < 2; at++ {
				want := api.ErrRange
				if at == 0 {
					want = api.OK
				}
				if errno := e.Back(at); errno != want {
					t.Errorf("Back(%d) = %d", at, errno)
				}
				if event, errno := e.Seen(at); event != (api.Event{}) || errno != api.ErrRange {
					t.Errorf("Seen(%d) = %+v, %d", at, event, errno)
				}
			}
			if last, some := e.Last(); e.At() != 0 || e.Steps() != 0 || e.Work() != 0 || some || last != (api.Event{}) || len(e.Frames()) != 0 || e.Result().Steps != 0 {
				t.Errorf("the zero engine has moved")
			}
		}
	}
}
