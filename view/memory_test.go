package view

import (
	"reflect"
	"runtime"
	"slices"
	"strings"
	"sync"
	"testing"
	"unsafe"

	"retrace/api"
	"retrace/walk"
)

// rich has texts and names of more than a byte wherever they can be.
const rich = `fn join(left: text, right: text): text { return left + right; } fn main() { var name: text = "some text"; var list: [text] = new text[3]; list[0] = name; var count: int = 0; outer: for turn = 1 to 2 { var name: text = join(list[0], "more"); read count; while true { name = join(name, "less"); break outer; } } name = join(list[0], "other"); }`

func richRun(t *testing.T) (api.Program, []api.Event) {
	t.Helper()
	p := front(t, rich)
	run, errno := walk.Run(p, []int64{7}, api.Limits{Depth: 3, Cells: 9}, 1000)
	if errno != api.OK || run.Outcome.Phase != api.Ended || len(run.Events) != 39 {
		t.Fatal(errno, run.Outcome, len(run.Events))
	}
	return p, run.Events
}

// span is a piece of memory.
type span struct {
	what        string
	first, last uintptr
}

func textSpan(what, text string) span {
	first := uintptr(unsafe.Pointer(unsafe.StringData(text)))
	return span{what, first, first + uintptr(len(text))}
}

// spans is the memory of all lists within a value, spare room included, and of its texts.
func spans(what string, v reflect.Value) []span {
	var all []span
	switch v.Kind() {
	case reflect.Struct:
		for n := range v.NumField() {
			all = append(all, spans(what+"."+v.Type().Field(n).Name, v.Field(n))...)
		}
	case reflect.Slice:
		all = append(all, span{what, v.Pointer(), v.Pointer() + uintptr(v.Cap())*v.Type().Elem().Size()})
		for n := range v.Len() {
			all = append(all, spans(what+"[]", v.Index(n))...)
		}
	case reflect.String:
		all = append(all, textSpan(what, v.String()))
	}
	return all
}

func apart(t *testing.T, a, b []span) {
	t.Helper()
	for _, one := range a {
		for _, other := range b {
			if one.first < other.last && other.first < one.last {
				t.Fatalf("the %s shares memory with the %s", one.what, other.what)
			}
		}
	}
}

// apartWithin asks that nothing of an answer shares memory with anything else of it.
func apartWithin(t *testing.T, a []span) {
	t.Helper()
	for n := range a {
		apart(t, a[n:n+1], a[n+1:])
	}
}

// P18.1, P18.4, P18.5: answers are new memory, and a view keeps none that was handed in.
func TestNewMemory(t *testing.T) {
	p, events := richRun(t)
	given := spans("program", reflect.ValueOf(p))
	v, _ := New(p)
	other, _ := New(p)
	var kept []any // so that no memory is given out twice
	for _, e := range events {
		handed := api.Event{Kind: e.Kind, Node: e.Node, Name: strings.Clone(e.Name), Value: e.Value}
		handed.Value.Text = strings.Clone(e.Value.Text)
		given = append(given, spans("event", reflect.ValueOf(handed))...)
		if v.Take(handed) != api.OK || other.Take(handed) != api.OK {
			t.Fatal(e)
		}
		own, twin := spans("view", reflect.ValueOf(*v)), v.Clone()
		var answers []span
		for range 2 {
			frames := v.Frames()
			last, _ := v.Last()
			for n, told := range [][]span{spans("frames", reflect.ValueOf(frames)), spans("last", reflect.ValueOf(last))} {
				apart(t, told, given)
				apart(t, told, own)
				apart(t, told, answers)
				if n == 0 {
					apartWithin(t, told)
				}
				answers = append(answers, told...)
			}
			kept = append(kept, frames, last)
		}
		apart(t, own, given)
		apart(t, own, spans("clone", reflect.ValueOf(*twin)))
		apart(t, spans("clone", reflect.ValueOf(*twin)), given)
		apart(t, own, spans("other view", reflect.ValueOf(*other)))
		kept = append(kept, handed, twin)
	}
	if count := len(spans("view", reflect.ValueOf(*v))); count < 20 || len(given) < 100 {
		t.Errorf("only %d pieces of a view, %d of what it was given", count, len(given))
	}
	runtime.KeepAlive([]any{p, v, other, kept})
}

// roomy is a program with something in the spare room of its lists.
func roomy(p api.Program) api.Program {
	own := copied(reflect.ValueOf(p))
	for _, one := range places("", own) {
		if one.v.Kind() != reflect.Slice {
			continue
		}
		more := one.v
		for range 3 {
			spare := reflect.New(one.v.Type().Elem()).Elem()
			for _, inner := range places("", spare) {
				switch inner.v.Kind() {
				case reflect.String:
					inner.v.SetString("spare")
				case reflect.Int, reflect.Int64:
					inner.v.SetInt(99)
				}
			}
			more = reflect.Append(more, spare)
		}
		one.v.Set(more.Slice(0, one.v.Len()))
	}
	return own.Interface().(api.Program)
}

// whole is all that lies in the lists of a value, in their spare room too.
func whole(v reflect.Value) any {
	var all []any
	switch v.Kind() {
	case reflect.Struct:
		for n := range v.NumField() {
			all = append(all, whole(v.Field(n)))
		}
	case reflect.Slice:
		full := v.Slice(0, v.Cap())
		for n := range full.Len() {
			all = append(all, whole(full.Index(n)))
		}
	default:
		return v.Interface()
	}
	return all
}

// What is handed in is not changed, spare room included.
func TestUnchanged(t *testing.T) {
	p, events := richRun(t)
	p = roomy(p)
	before := whole(reflect.ValueOf(p))
	v, errno := New(p)
	if errno != api.OK {
		t.Fatal(errno)
	}
	for _, e := range events {
		if v.Take(e) != api.OK {
			t.Fatal(e)
		}
		v.Frames()
		v = v.Clone()
	}
	if !reflect.DeepEqual(before, whole(reflect.ValueOf(p))) {
		t.Errorf("what was handed in is changed")
	}
	if p.Types[:cap(p.Types)][len(p.Types)] != "spare" {
		t.Errorf("nothing lay in the spare room")
	}
}

// spoil changes all that lies in the lists of a value.
func spoil(v reflect.Value) {
	for _, one := range places("", v) {
		if one.v.Kind() == reflect.Slice {
			all := one.v.Slice(0, one.v.Cap())
			for n := range all.Len() {
				all.Index(n).SetZero()
			}
		}
	}
}

// P18.1, P18.4: what becomes of the program's lists, or of an answer, makes no difference, whenever it is.
func TestListsChanged(t *testing.T) {
	p, events := richRun(t)
	for stop := range events {
		own := copiedProgram(p)
		v, _ := New(own)
		s := pair{v, newSecond(p)}
		for at, e := range events {
			if at == stop {
				spoil(reflect.ValueOf(&own).Elem())
			}
			if !s.take(t, e) {
				t.Fatalf("spoilt ahead of event %d, event %d is refused", stop+1, at+1)
			}
			frames := v.Frames()
			for n := range frames {
				spoil(reflect.ValueOf(&frames[n]).Elem())
				frames[n].Vars = append(frames[n].Vars, api.Shown{})
			}
			clear(frames)
			s.agrees(t)
		}
	}
}

// P18.3, P18.4: asking changes nothing, however often.
func TestAsking(t *testing.T) {
	p, events := richRun(t)
	v, _ := New(p)
	for _, e := range events {
		v.Take(e)
		frames, count, depth := v.Frames(), v.Count(), v.Depth()
		for range 3 {
			v.Clone()
			last, some := v.Last()
			if !sameFrames(v.Frames(), frames) || v.Count() != count || v.Depth() != depth || last != e || !some {
				t.Fatalf("behind %v: asked again: %v, %v", e, v.Frames(), last)
			}
		}
	}
}

// P18.5: what one takes does not show in the other, at any state, nor in a clone's clone.
func TestClones(t *testing.T) {
	for seed := range seeds(1500) {
		g := grow(t, seed)
		run, _ := walk.Run(g.program, g.input, g.limits, 60)
		rest := &grower{Rand: newRand(seed)}
		p := newPair(t, g.program)
		for _, e := range run.Events[:rest.Intn(len(run.Events)+1)] {
			p.take(t, e)
		}
		twin := p.clone()
		third := twin.clone()
		all := []pair{p, twin, third}
		for range 30 {
			one := all[rest.Intn(3)]
			e := offered(rest.Rand, g.program, run.Events)
			if at := one.v.Count(); at < len(run.Events) && rest.Intn(3) > 0 {
				e = run.Events[at]
			}
			one.take(t, e)
			for _, other := range all {
				other.agrees(t)
			}
		}
	}
}

// P18.5: a clone is of the same state: it can go on as the view could, from every event of a run on.
func TestClonesGoOn(t *testing.T) {
	p, events := richRun(t)
	v, _ := New(p)
	for at := range events {
		twin := v.Clone()
		for _, e := range events[at:] {
			if errno := twin.Take(e); errno != api.OK {
				t.Fatalf("cloned behind %d events: %v: %d", at, e, errno)
			}
		}
		if twin.Depth() != 0 || twin.Count() != len(events) || v.Count() != at {
			t.Fatalf("cloned behind %d events: %d frames, %d events", at, twin.Depth(), twin.Count())
		}
		v.Take(events[at])
	}
	if ended := v.Clone(); ended.Take(events[0]) != api.ErrFold || ended.Count() != len(events) {
		t.Errorf("the clone of a view at its end goes on")
	}
}

// Views share nothing, so each can be used by a goroutine of its own (the race detector sees if they do).
func TestAtOnce(t *testing.T) {
	p, events := richRun(t)
	v, _ := New(p)
	for _, e := range events[:20] {
		v.Take(e)
	}
	var all sync.WaitGroup
	frames := make([][]api.Frame, 8)
	for n := range frames {
		twin := v.Clone()
		all.Go(func() {
			for _, e := range events[20:30] {
				twin.Take(e)
			}
			frames[n] = twin.Frames()
		})
	}
	for _, e := range events[20:30] {
		v.Take(e)
	}
	all.Wait()
	for _, told := range frames {
		if !sameFrames(told, v.Frames()) {
			t.Errorf("%v, want %v", told, v.Frames())
		}
	}
}

// However long a run goes on, what is kept is what can still be asked for.
func TestNothingPilesUp(t *testing.T) {
	p := front(t, `fn f(n: int): text { if n > 0 { var word: text = f(n - 1); return word + "x"; } return ""; } fn main() { while true { var word: text = f(3); for i = 1 to 3 { { var again: text = word; } } } }`)
	run, _ := walk.Run(p, nil, api.Limits{Depth: 9}, 20000)
	v, _ := New(p)
	for _, e := range run.Events {
		if v.Take(e) != api.OK {
			t.Fatal(e)
		}
		if cap(v.frames) > 16 {
			t.Fatalf("room for %d frames", cap(v.frames))
		}
		for n, f := range v.frames[:cap(v.frames)] {
			if n >= len(v.frames) && (f.open != nil || f.vars != nil) {
				t.Fatalf("a frame that is gone is kept: %v", f)
			}
			if cap(f.open) > 8 || cap(f.vars) > 8 {
				t.Fatalf("room for %d blocks, %d variables", cap(f.open), cap(f.vars))
			}
			gone := f.vars[:cap(f.vars)][len(f.vars):]
			if slices.ContainsFunc(gone, func(s api.Shown) bool { return s != api.Shown{} }) {
				t.Fatalf("variables that are gone are kept: %v", gone)
			}
		}
	}
}
