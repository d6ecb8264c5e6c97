package monitor

import (
	"fmt"
	"reflect"
	"runtime"
	"slices"
	"strings"
	"sync"
	"testing"
	"unsafe"

	"retrace/api"
	"retrace/events"
)

const rich = "fn join(left: text, right: text): text {\nreturn left + right; }\nfn main() { var name: text = \"some text\"; var list: [text] = new text[3];\nlist[0] = name; var count: int = 0;\nouter: for turn = 1 to 2 { read count; print turn, count, list[turn]; while true { break outer; } }\nname = join(list[0], \"more\"); print name; }"

func richRun(t testing.TB) *plainRun { return plainly(t, rich, enough, 100, 7, 8) }

// span is a piece of memory.
type span struct {
	what        string
	first, last uintptr
}

// spans is the memory of all lists and texts within a value, spare room included.
func spans(what string, v reflect.Value) []span {
	var all []span
	switch v.Kind() {
	case reflect.Struct:
		for n := range v.NumField() {
			all = append(all, spans(what+"."+v.Type().Field(n).Name, v.Field(n))...)
		}
	case reflect.Slice:
		all = append(all, span{what, v.Pointer(), v.Pointer() + uintptr(v.Cap())*v.Type().Elem().Size()})
		for n := range v.Len() {
			all = append(all, spans(what+"[]", v.Index(n))...)
		}
	case reflect.Map:
		for _, key := range v.MapKeys() {
			all = append(all, spans(what+"[]", v.MapIndex(key))...)
		}
	case reflect.String:
		first := uintptr(unsafe.Pointer(unsafe.StringData(v.String())))
		all = append(all, span{what, first, first + uintptr(v.Len())})
	}
	return all
}

func apart(t *testing.T, a, b []span) {
	t.Helper()
	for _, one := range a {
		for _, other := range b {
			if one.first < other.last && other.first < one.last {
				t.Fatalf("P22.8: the %s shares memory with the %s", one.what, other.what)
			}
		}
	}
}

// keeping is the memory of all that a monitor keeps.
func keeping(m *Monitor) []span { return spans("monitor", reflect.ValueOf(m).Elem()) }

// loose is a command whose texts are memory of its own.
func loose(c api.Command) api.Command {
	c.Point.Name, c.Point.Cond = strings.Clone(c.Point.Name), strings.Clone(c.Point.Cond)
	return c
}

// P22.8: what is told is new memory: apart from what was handed in, from what the monitor keeps, and from all else that is told; two monitors are apart too.
func TestNewMemory(t *testing.T) {
	b, input := ownBuilt(richRun(t).built, nil), []int64{7, 8}
	b.Program.Text = strings.Clone(b.Program.Text)
	watch := loose(api.Command{Kind: api.CmWatch, Point: onChange("name", "len(list) == 3")})
	stop := loose(api.Command{Kind: api.CmBreak, Point: onCall("join", "")})
	given := spans("argument", reflect.ValueOf(b))
	given = append(given, spans("input", reflect.ValueOf(input))...)
	given = append(given, spans("point", reflect.ValueOf(watch))...)
	given = append(given, spans("point", reflect.ValueOf(stop))...)
	var kept []any
	var told []span
	tell := func(what string, v any) {
		kept = append(kept, v)
		told = append(told, spans(what, reflect.ValueOf(v))...)
	}
	var both []*Monitor
	for range 2 {
		m, _ := New(b, input, enough, 1000)
		both = append(both, m)
		m.Set(watch)
		m.Set(stop)
		for _, kind := range []api.CommandKind{api.CmContinue, api.CmContinue, api.CmContinue, api.CmRcontinue, api.CmStep} {
			m.Move(api.Command{Kind: kind})
			for range 2 {
				last, _ := m.Last()
				numbers, list := m.Points()
				tell("last", last)
				tell("numbers", numbers)
				tell("points", list)
				tell("frames", m.Frames())
				tell("result", m.Result())
			}
		}
	}
	for n := range told {
		apart(t, told[n:n+1], told[n+1:])
	}
	for _, m := range both {
		apart(t, told, keeping(m))
		apart(t, given, keeping(m))
	}
	apart(t, told, given)
	apart(t, keeping(both[0]), keeping(both[1]))
	if len(told) < 200 || len(keeping(both[0])) < 200 {
		t.Errorf("%d and %d spans", len(told), len(keeping(both[0])))
	}
	runtime.KeepAlive([]any{b, input, watch, stop, kept, both})
}

// spoil changes all that lies in the lists of a value, spare room included.
func spoil(v reflect.Value) {
	switch v.Kind() {
	case reflect.Struct:
		for n := range v.NumField() {
			spoil(v.Field(n))
		}
	case reflect.Slice:
		all := v.Slice(0, v.Cap())
		for n := range all.Len() {
			spoil(all.Index(n))
			all.Index(n).SetZero()
		}
	}
}

// P22.8: what becomes of the lists that were handed in, or of an answer, makes no difference, whenever it is.
func TestListsChanged(t *testing.T) {
	r := richRun(t)
	for stop := range 6 {
		b, input := ownBuilt(r.built, nil), []int64{7, 8}
		p := r.known(t, nil, 0, false)
		p.monitor, _ = New(b, input, r.limits, 1000)
		p.adds(onLine(2, "left == \"some text\""))
		p.adds(onChange("name", ""))
		p.adds(onCall("main", "true"))
		p.adds(onChange("list", "list[0] == \"some text\""))
		for turn, kind := range []api.CommandKind{api.CmContinue, api.CmContinue, api.CmContinue, api.CmStep, api.CmNext, api.CmRcontinue, api.CmContinue, api.CmRnext, api.CmFinish, api.CmBack, api.CmContinue, api.CmContinue, api.CmRcontinue, api.CmRcontinue} {
			if turn == 2*stop {
				spoil(reflect.ValueOf(b))
				spoil(reflect.ValueOf(input))
			}
			p.does(kind)
			numbers, list := p.monitor.Points()
			for _, answer := range []any{numbers, list, p.monitor.Frames(), p.monitor.Result()} {
				spoil(reflect.ValueOf(answer))
			}
			p.stands()
		}
	}
}

// A text that was handed in is not kept, but by its content.
func TestTextsChanged(t *testing.T) {
	text, name, cond := []byte(rich), []byte("name"), []byte("len(list) == 3")
	b := built(t, unsafe.String(&text[0], len(text)))
	m, errno := New(b, []int64{7, 8}, enough, 1000)
	if errno != api.OK {
		t.Fatal(errno)
	}
	m.Set(api.Command{Kind: api.CmWatch, Point: onChange(unsafe.String(&name[0], len(name)), unsafe.String(&cond[0], len(cond)))})
	m.Set(api.Command{Kind: api.CmBreak, Point: onLine(2, "")})
	for _, room := range [][]byte{text, name, cond} {
		for n := range room {
			room[n] = '\n'
		}
	}
	p := richRun(t).pair(t, 1000)
	p.adds(onChange("name", "len(list) == 3"))
	p.adds(onLine(2, ""))
	p.monitor = m
	for range 4 {
		p.does(api.CmContinue)
		p.stands()
	}
	runtime.KeepAlive(b)
}

// What is handed in is not changed, spare room included.
func TestUnchanged(t *testing.T) {
	b := ownBuilt(richRun(t).built, func(v reflect.Value) reflect.Value {
		// Something of the list's own lies behind its end.
		return reflect.AppendSlice(v, v).Slice(0, v.Len())
	})
	input := []int64{7, 8, 9, 10}[:2]
	before := []any{whole(reflect.ValueOf(b)), whole(reflect.ValueOf(input))}
	m, errno := New(b, input, enough, 1000)
	if errno != api.OK {
		t.Fatal(errno)
	}
	m.Set(api.Command{Kind: api.CmWatch, Point: onChange("name", "len(list) == 4")})
	for _, kind := range []api.CommandKind{api.CmStep, api.CmContinue, api.CmRcontinue, api.CmNext, api.CmFinish, api.CmRnext, api.CmRfinish} {
		m.Move(api.Command{Kind: kind})
	}
	if after := []any{whole(reflect.ValueOf(b)), whole(reflect.ValueOf(input))}; !reflect.DeepEqual(before, after) {
		t.Errorf("what was handed in is changed")
	}
	if _, errno := events.Run(b, input, enough, 10); errno != api.OK || b.Table[:cap(b.Table)][len(b.Table)] != b.Table[0] {
		t.Errorf("%d, or nothing lay in the spare room", errno)
	}
}

// whole is all that lies in the lists of a value, in their spare room too.
func whole(v reflect.Value) any {
	var all []any
	switch v.Kind() {
	case reflect.Struct:
		for n := range v.NumField() {
			all = append(all, whole(v.Field(n)))
		}
	case reflect.Slice:
		full := v.Slice(0, v.Cap())
		for n := range full.Len() {
			all = append(all, whole(full.Index(n)))
		}
	default:
		return v.Interface()
	}
	return all
}

// P22.8: asking changes nothing, however often.
func TestAsking(t *testing.T) {
	r := richRun(t)
	asked, quiet := r.known(t, somePoints()[4], 0, false), r.known(t, somePoints()[4], 0, false)
	for n := range 60 {
		kind := movements[n*n%len(movements)]
		if n%3 > 0 {
			kind = api.CmStep
		}
		for range 3 {
			asked.stands()
		}
		if one, other := asked.does(kind), quiet.does(kind); one != other {
			t.Fatalf("P22.8: %+v and %+v", one, other)
		}
	}
}

// Two monitors of one program: what is done to one is not seen in the other.
func TestTwoMonitors(t *testing.T) {
	r := richRun(t)
	one, other := r.pair(t, 1000), r.pair(t, 30)
	g := newGrower(1)
	for range 400 {
		p := one
		if g.Intn(2) == 0 {
			p = other
		}
		if g.Intn(4) == 0 {
			p.sets(g.setting())
		} else {
			p.moves(g.command(&p.plain))
		}
		one.stands()
		other.stands()
	}
}

// Monitors share nothing: each can be driven in a goroutine of its own (the race detector sees if they share).
func TestAtOnce(t *testing.T) {
	r := richRun(t)
	told := make([]string, 6)
	var all sync.WaitGroup
	for n := range told {
		m, _ := New(r.built, r.input, r.limits, 1000)
		all.Go(func() {
			g, p := newGrower(5), plainMonitor{run: r}
			for range 200 {
				c := g.setting()
				number, errno := m.Set(c)
				stop, moved := m.Move(g.command(&p))
				told[n] += fmt.Sprint(number, errno, stop, moved, len(m.Frames()), m.Result().Steps, "\n")
			}
		})
	}
	all.Wait()
	if len(slices.Compact(told)) != 1 {
		t.Errorf("the same commands were answered otherwise")
	}
}
