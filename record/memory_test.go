package record

import (
	"reflect"
	"runtime"
	"slices"
	"strings"
	"sync"
	"testing"
	"unsafe"

	"retrace/api"
)

// span is a piece of memory.
type span struct {
	what        string
	first, last uintptr
}

// spans is the memory of all lists and texts within a value, spare room included.
func spans(what string, v reflect.Value) []span {
	var all []span
	switch v.Kind() {
	case reflect.Struct:
		for n := range v.NumField() {
			all = append(all, spans(what+"."+v.Type().Field(n).Name, v.Field(n))...)
		}
	case reflect.Slice:
		all = append(all, span{what, v.Pointer(), v.Pointer() + uintptr(v.Cap())*v.Type().Elem().Size()})
		for n := range v.Len() {
			all = append(all, spans(what+"[]", v.Index(n))...)
		}
	case reflect.String:
		first := uintptr(unsafe.Pointer(unsafe.StringData(v.String())))
		all = append(all, span{what, first, first + uintptr(v.Len())})
	}
	return all
}

func apart(t *testing.T, a, b []span) {
	t.Helper()
	for _, one := range a {
		for _, other := range b {
			if one.first < other.last && other.first < one.last {
				t.Fatalf("P25.8: the %s shares memory with the %s", one.what, other.what)
			}
		}
	}
}

// rich has the same name and the same text in many events.
func rich() api.Record {
	r := api.Record{Outcome: api.Outcome{Phase: api.Trapped, Trap: api.TrapLong}, Output: strings.Repeat("output", 3), Input: 4}
	for n := range 70 {
		r.Events = append(r.Events, api.Event{Kind: api.EvSet, Node: n, Name: strings.Repeat("name", 1+n%3), Value: text(strings.Repeat("value", n%4))})
	}
	return r
}

// P25.8: what is answered is new memory: apart from what was handed in, from other answers, and within.
func TestNewMemory(t *testing.T) {
	r := rich()
	given := spans("record", reflect.ValueOf(r))
	var answers []span
	var kept []any
	for range 2 {
		b := lays(t, r)
		file := strings.Clone(b)
		given = append(given, spans("file", reflect.ValueOf(file))...)
		decoded, _ := Decode(file)
		all, _, _ := Salvage(file)
		first, _, _ := Salvage(file[:len(file)-1])
		answers = append(answers, spans("bytes", reflect.ValueOf(b))...)
		for _, one := range []api.Record{decoded, all, first} {
			if len(one.Events) != 70 {
				t.Fatalf("%d events", len(one.Events))
			}
			answers = append(answers, spans("answer", reflect.ValueOf(one))...)
			kept = append(kept, one)
		}
		kept = append(kept, b, file)
	}
	for n := range answers {
		apart(t, answers[n:n+1], answers[n+1:])
	}
	apart(t, answers, given)
	runtime.KeepAlive([]any{r, kept})
}

// P25.8: so is the record of a run.
func TestOfMemory(t *testing.T) {
	source := strings.Clone(sources[2])
	input := []int64{7, 8}
	given := append(spans("source", reflect.ValueOf(source)), spans("input", reflect.ValueOf(input))...)
	one, _ := Of(source, input, enough, 1000)
	other, _ := Of(source, input, enough, 1000)
	answers := append(spans("answer", reflect.ValueOf(one)), spans("answer", reflect.ValueOf(other))...)
	for n := range answers {
		apart(t, answers[n:n+1], answers[n+1:])
	}
	apart(t, answers, given)
	if len(answers) < 100 {
		t.Errorf("%d spans", len(answers))
	}
	runtime.KeepAlive([]any{source, input, one, other})
}

// P25.8: what is handed in is not changed, spare room included.
func TestUnchanged(t *testing.T) {
	for _, length := range []int{0, 1, 63, 64, 65, 69} {
		r := rich()
		r.Events = r.Events[:length]
		whole := slices.Clone(r.Events[:70])
		lays(t, r)
		r.Input = -1
		lays(t, r)
		if !slices.Equal(r.Events[:70], whole) || r.Output != rich().Output {
			t.Errorf("P25.8: a record of %d events is changed", length)
		}
	}
	bytes := []byte(lays(t, rich()))
	before := string(bytes)
	file := unsafe.String(&bytes[0], len(bytes))
	asks(t, file)
	asks(t, file[:len(file)-20])
	if string(bytes) != before {
		t.Errorf("P25.8: a file is changed")
	}
	input := []int64{7, 8, 9, 10}
	Of(sources[2], input[:2], enough, 1000)
	if !slices.Equal(input, []int64{7, 8, 9, 10}) {
		t.Errorf("P25.8: an input is changed: %v", input)
	}
}

// P25.8: what becomes of what was handed in, or of an answer, makes no difference.
func TestChanged(t *testing.T) {
	r := rich()
	b, _ := Encode(r)
	bytes := []byte(b)
	file := unsafe.String(&bytes[0], len(bytes))
	one, _ := Decode(file)
	other, _, _ := Salvage(file)
	clear(bytes)
	if !same(one, r) || !same(other, r) {
		t.Errorf("P25.8: an answer hangs on the bytes")
	}
	clear(one.Events[:cap(one.Events)])
	clear(r.Events)
	if again, errno := Decode(b); !same(again, rich()) || !same(other, rich()) || errno != api.OK {
		t.Errorf("P25.8: an answer hangs on another one")
	}
}

// An empty list may be nil or not.
func TestEmpty(t *testing.T) {
	for _, list := range [][]api.Event{nil, {}, make([]api.Event, 0, 5)} {
		if b, errno := Encode(api.Record{Events: list}); b != "R\x01\x00\x00\x00\x09\x02\x00\x00\x00\x00\x00\x00\x00\x00\xdd\x97\x45\xce" || errno != api.OK {
			t.Errorf("P25.1: %x, %d", b, errno)
		}
	}
	for _, input := range [][]int64{nil, {}} {
		if r, problem := Of(ten, input, enough, 1000); r.Outcome != (api.Outcome{Phase: api.Trapped, Trap: api.TrapInput}) || len(r.Events) != 4 || problem != (api.Problem{}) {
			t.Errorf("P25.4: %+v, %+v", r, problem)
		}
	}
}

// Calls share nothing: each can be done in a goroutine of its own (the race detector sees if they share).
func TestAtOnce(t *testing.T) {
	r := rich()
	want := lays(t, r)
	run, _ := Of(sources[2], []int64{7, 8}, enough, 1000)
	var all sync.WaitGroup
	for range 8 {
		all.Go(func() {
			b, _ := Encode(r)
			decoded, _ := Decode(want)
			saved, _, _ := Salvage(want + want)
			own, _ := Of(sources[2], []int64{7, 8}, enough, 1000)
			if b != want || !same(decoded, r) || !same(saved, r) || !same(own, run) {
				t.Error("done at once, the answers are others")
			}
		})
	}
	all.Wait()
}
