package travel

import (
	"reflect"
	"runtime"
	"sync"
	"testing"
	"unsafe"

	"retrace/api"
	"retrace/events"
)

const rich = `fn join(left: text, right: text): text { return left + right; } fn main() { var name: text = "some text"; var list: [text] = new text[3]; list[0] = name; var count: int = 0; outer: for turn = 1 to 2 { read count; print turn, count, list[turn]; while true { break outer; } } name = join(list[0], "more"); print name; }`

func richRun(t testing.TB) *plainRun { return plainly(t, rich, enough, 100, 7, 8) }

// span is a piece of memory.
type span struct {
	what        string
	first, last uintptr
}

// spans is the memory of all lists and texts within a value, spare room included.
func spans(what string, v reflect.Value) []span {
	var all []span
	switch v.Kind() {
	case reflect.Struct:
		for n := range v.NumField() {
			all = append(all, spans(what+"."+v.Type().Field(n).Name, v.Field(n))...)
		}
	case reflect.Slice:
		all = append(all, span{what, v.Pointer(), v.Pointer() + uintptr(v.Cap())*v.Type().Elem().Size()})
		for n := range v.Len() {
			all = append(all, spans(what+"[]", v.Index(n))...)
		}
	case reflect.String:
		first := uintptr(unsafe.Pointer(unsafe.StringData(v.String())))
		all = append(all, span{what, first, first + uintptr(v.Len())})
	}
	return all
}

func apart(t *testing.T, a, b []span) {
	t.Helper()
	for _, one := range a {
		for _, other := range b {
			if one.first < other.last && other.first < one.last {
				t.Fatalf("P21.9: the %s shares memory with the %s", one.what, other.what)
			}
		}
	}
}

// keeping is the memory of all that an engine keeps.
func keeping(e *Engine) []span { return spans("engine", reflect.ValueOf(e).Elem()) }

// P21.9: what is told is new memory: apart from what was handed in, from what the engine keeps, and from all else that is told; two engines are apart too.
func TestNewMemory(t *testing.T) {
	r := richRun(t)
	b, input := ownBuilt(r.built, nil), []int64{7, 8}
	one, _ := New(b, input, enough, 3)
	other, _ := New(b, input, enough, 3)
	given := spans("argument", reflect.ValueOf(b))
	given = append(given, spans("input", reflect.ValueOf(input))...)
	var kept []any
	var told []span
	tell := func(what string, v any) {
		kept = append(kept, v)
		told = append(told, spans(what, reflect.ValueOf(v))...)
	}
	for errno := api.OK; errno == api.OK; {
		var event api.Event
		event, _, errno = one.Forward(1000)
		tell("event", event)
		other.Forward(1000)
	}
	for _, e := range []*Engine{one, other} {
		for _, at := range []int{20, 11} {
			e.Back(at)
			for range 2 {
				last, _ := e.Last()
				seen, _ := e.Seen(at - 1)
				tell("last", last)
				tell("seen", seen)
				tell("frames", e.Frames())
				tell("result", e.Result())
			}
		}
	}
	for n := range told {
		apart(t, told[n:n+1], told[n+1:])
	}
	for _, e := range []*Engine{one, other} {
		apart(t, told, keeping(e))
		apart(t, given, keeping(e))
	}
	apart(t, told, given)
	apart(t, keeping(one), keeping(other))
	if len(told) < 200 || len(keeping(one)) < 200 {
		t.Errorf("%d and %d spans", len(told), len(keeping(one)))
	}
	runtime.KeepAlive([]any{b, input, kept, one, other})
}

// spoil changes all that lies in the lists of a value, spare room included.
func spoil(v reflect.Value) {
	switch v.Kind() {
	case reflect.Struct:
		for n := range v.NumField() {
			spoil(v.Field(n))
		}
	case reflect.Slice:
		all := v.Slice(0, v.Cap())
		for n := range all.Len() {
			spoil(all.Index(n))
			all.Index(n).SetZero()
		}
	}
}

// P21.1: what becomes of the lists that were handed in, or of an answer, makes no difference, whenever it is.
func TestListsChanged(t *testing.T) {
	r := richRun(t)
	for stop := 0; stop <= r.last(); stop += 3 {
		b, input := ownBuilt(r.built, nil), []int64{7, 8}
		p := r.pair(t, 4)
		p.engine, _ = New(b, input, r.limits, 4)
		for round := range 2 {
			for !p.plain.over {
				if p.plain.at == stop && round == 0 {
					spoil(reflect.ValueOf(b))
					spoil(reflect.ValueOf(input))
				}
				p.forward(1000)
				spoil(reflect.ValueOf(p.engine.Frames()))
				spoil(reflect.ValueOf(p.engine.Result()))
				p.stands()
			}
			for at := r.last(); at >= 0; at -= 5 {
				p.back(at)
				p.stands()
			}
			p.back(0)
		}
	}
}

// whole is all that lies in the lists of a value, in their spare room too.
func whole(v reflect.Value) any {
	var all []any
	switch v.Kind() {
	case reflect.Struct:
		for n := range v.NumField() {
			all = append(all, whole(v.Field(n)))
		}
	case reflect.Slice:
		full := v.Slice(0, v.Cap())
		for n := range full.Len() {
			all = append(all, whole(full.Index(n)))
		}
	default:
		return v.Interface()
	}
	return all
}

// What is handed in is not changed, spare room included.
func TestUnchanged(t *testing.T) {
	r := richRun(t)
	b := ownBuilt(r.built, func(v reflect.Value) reflect.Value {
		// Something of the list's own lies behind its end.
		return reflect.AppendSlice(v, v).Slice(0, v.Len())
	})
	input := []int64{7, 8, 9, 10}[:2]
	before := []any{whole(reflect.ValueOf(b)), whole(reflect.ValueOf(input))}
	e, errno := New(b, input, enough, 2)
	for errno == api.OK {
		_, _, errno = e.Forward(1000)
	}
	e.Back(9)
	e.Forward(1)
	e.Back(0)
	if after := []any{whole(reflect.ValueOf(b)), whole(reflect.ValueOf(input))}; !reflect.DeepEqual(before, after) {
		t.Errorf("what was handed in is changed")
	}
	if errno != api.ErrOver || b.Table[:cap(b.Table)][len(b.Table)] != b.Table[0] {
		t.Errorf("%d, or nothing lay in the spare room", errno)
	}
}

// P21.2, P21.5: asking changes nothing, however often.
func TestAsking(t *testing.T) {
	r := richRun(t)
	p := r.pair(t, 5)
	for !p.plain.over {
		p.forward(1000)
		work := p.engine.Work()
		for range 3 {
			p.stands()
			p.seen(p.plain.at)
			p.seen(p.plain.at + 1)
			p.engine.Depth()
			p.engine.Clone()
		}
		if p.engine.Work() != work {
			t.Fatalf("P21.6: Work = %d, asked again", p.engine.Work())
		}
	}
}

// P21.9: engines share nothing: each goes its own way, and can do so in a goroutine of its own (the race detector sees if they share).
func TestAtOnce(t *testing.T) {
	r := richRun(t)
	var all sync.WaitGroup
	for n := range 8 {
		p := r.pair(t, n)
		all.Go(func() {
			g := newGrower(int64(n))
			for range 200 {
				if g.Intn(3) > 0 {
					p.engine.Forward(g.budget(&p.plain))
					p.engine.Seen(g.Intn(30))
				} else {
					p.engine.Back(g.Intn(p.engine.At() + 1))
				}
				p.engine.Frames()
				p.engine.Result()
			}
			p.engine.Back(0)
			for at := range r.events {
				event, _, errno := p.engine.Forward(1000)
				if event != r.events[at] || errno != api.OK || p.engine.Steps() != r.marks[at+1] {
					t.Errorf("engine %d: event %d: %+v, %d", n, at+1, event, errno)
				}
			}
		})
	}
	all.Wait()
}

// Two engines of one program: what is done to one is not seen in the other.
func TestTwoEngines(t *testing.T) {
	r := richRun(t)
	one, other := r.pair(t, 2), r.pair(t, 2)
	g := newGrower(1)
	for range 400 {
		p := one
		if g.Intn(2) == 0 {
			p = other
		}
		if g.Intn(3) > 0 {
			p.forward(g.budget(&p.plain))
		} else {
			p.back(g.position(&p.plain))
		}
		one.stands()
		other.stands()
	}
}

// The built program that is handed in stays one.
func TestStaysBuilt(t *testing.T) {
	r := richRun(t)
	p := r.pair(t, 1)
	for !p.plain.over {
		p.forward(1000)
	}
	if _, errno := events.Run(r.built, nil, enough, 10); errno != api.OK {
		t.Errorf("%d", errno)
	}
}
