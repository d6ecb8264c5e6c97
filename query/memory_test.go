package query

import (
	"reflect"
	"runtime"
	"slices"
	"strings"
	"sync"
	"testing"
	"unsafe"

	"retrace/api"
)

// rich has texts and names of more than a byte wherever they can be.
const rich = "fn join(left: text, right: text): text { return left + right; } fn main() { var name: text = \"some text\"; var list: [text] = new text[3]; list[0] = name; for turn = 1 to 2 { var name: text = join(list[0], \"more\"); name = join(name, \"less\"); } name = join(list[0], \"other\"); }"

// span is a piece of memory.
type span struct {
	what        string
	first, last uintptr
}

// spans is the memory of all lists and texts within a value, spare room included.
func spans(what string, v reflect.Value) []span {
	var all []span
	switch v.Kind() {
	case reflect.Struct:
		for n := range v.NumField() {
			all = append(all, spans(what+"."+v.Type().Field(n).Name, v.Field(n))...)
		}
	case reflect.Slice:
		all = append(all, span{what, v.Pointer(), v.Pointer() + uintptr(v.Cap())*v.Type().Elem().Size()})
		for n := range v.Len() {
			all = append(all, spans(what+"[]", v.Index(n))...)
		}
	case reflect.String:
		first := uintptr(unsafe.Pointer(unsafe.StringData(v.String())))
		all = append(all, span{what, first, first + uintptr(v.Len())})
	}
	return all
}

func apart(t *testing.T, a, b []span) {
	t.Helper()
	for _, one := range a {
		for _, other := range b {
			if one.first < other.last && other.first < one.last {
				t.Fatalf("P26.9: the %s shares memory with the %s", one.what, other.what)
			}
		}
	}
}

// all answers every question once, at each position.
func all(p api.Program, r api.Record) []any {
	var told []any
	for _, f := range p.Scoped.Funcs {
		for _, v := range f.Vars {
			history, _ := History(p, r, f.Name, v.Name)
			told = append(told, history)
		}
	}
	coverage, _ := Coverage(p, r)
	profile, _ := Profile(p, r)
	told = append(told, coverage, profile)
	for at := range len(r.Events) + 1 {
		frames, _ := Frames(p, r, at)
		setter, _ := Setter(p, r, "name", at)
		told = append(told, frames, setter)
	}
	return told
}

// P26.9: what is answered is new memory: apart from what was handed in, from other answers, and within.
func TestNewMemory(t *testing.T) {
	p, r := kept(t, rich, 100)
	for n := range r.Events {
		r.Events[n].Name, r.Events[n].Value.Text = strings.Clone(r.Events[n].Name), strings.Clone(r.Events[n].Value.Text)
	}
	given := append(spans("program", reflect.ValueOf(p)), spans("record", reflect.ValueOf(r))...)
	answered := append(all(p, r), all(p, r)...)
	var answers []span
	for _, one := range answered {
		answers = append(answers, spans("answer", reflect.ValueOf(one))...)
	}
	apart(t, answers, given)
	for n := range answers {
		apart(t, answers[n:n+1], answers[n+1:])
	}
	if len(answers) < 500 {
		t.Errorf("%d spans", len(answers))
	}
	runtime.KeepAlive([]any{p, r, answered})
}

// whole is a copy of a value whose lists have their spare room told, too.
func whole(v reflect.Value) any {
	switch v.Kind() {
	case reflect.Struct:
		var all []any
		for n := range v.NumField() {
			all = append(all, whole(v.Field(n)))
		}
		return all
	case reflect.Slice:
		var all []any
		for n := range v.Cap() {
			all = append(all, whole(v.Slice(0, v.Cap()).Index(n)))
		}
		return all
	}
	return v.Interface()
}

// P26.9: what is handed in is not changed, spare room included.
func TestUnchanged(t *testing.T) {
	p, r := kept(t, rich, 100)
	for n := range len(r.Events) + 1 {
		// What is behind the record's end lies in its list's spare room.
		part := of(r.Events[:n]...)
		before := []any{whole(reflect.ValueOf(p)), whole(reflect.ValueOf(part))}
		all(p, part)
		refuses(t, p, part, true)
		if !reflect.DeepEqual(before, []any{whole(reflect.ValueOf(p)), whole(reflect.ValueOf(part))}) {
			t.Fatalf("P26.9: with %d events something is changed", n)
		}
	}
}

// What becomes of an answer, or what was asked before, makes no difference.
func TestNothingKept(t *testing.T) {
	p, r := kept(t, rich, 100)
	first := all(p, r)
	other, another := kept(t, ten, 100, 3)
	all(other, another)
	for range 2 {
		again := all(p, r)
		if !reflect.DeepEqual(first, again) {
			t.Fatalf("P26.9: asked again: another answer")
		}
		for _, one := range again {
			switch list := one.(type) {
			case []api.Frame:
				for n := range list {
					clear(list[n].Vars)
				}
				clear(list)
			case []api.Change:
				clear(list)
			case []api.Cost:
				clear(list)
			case []int:
				clear(list)
			}
		}
	}
}

// Nothing is shared, so several may ask at once (the race detector sees if something is).
func TestAtOnce(t *testing.T) {
	p, r := kept(t, rich, 100)
	want := all(p, r)
	var group sync.WaitGroup
	told := make([][]any, 8)
	for n := range told {
		group.Go(func() { told[n] = all(p, r) })
	}
	group.Wait()
	if !slices.ContainsFunc(told, func(one []any) bool { return reflect.DeepEqual(one, want) }) || slices.ContainsFunc(told, func(one []any) bool { return !reflect.DeepEqual(one, want) }) {
		t.Errorf("asked at once: another answer")
	}
}
