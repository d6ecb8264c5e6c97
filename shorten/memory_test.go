package shorten

import (
	"reflect"
	"runtime"
	"strings"
	"sync"
	"testing"
	"unsafe"

	"retrace/alike"
	"retrace/api"
)

// rich has texts and names of more than a byte wherever they can be, and something for each pass.
const rich = "main 1;pool \"some\";pool \"text\";fn first 1 int int text;int 2;int 3;bin +;pop;jump 5;nop;load 0;ret;fn second 0 - [int] bool;bool 1;false 11;nop;bool 0;false 14;jump 15;jump 15;text 0;print 1;done"

// span is a piece of memory.
type span struct {
	what        string
	first, last uintptr
}

// spans is the memory of all lists and texts within a value, spare room included.
func spans(what string, v reflect.Value) []span {
	var all []span
	switch v.Kind() {
	case reflect.Struct:
		for n := range v.NumField() {
			all = append(all, spans(what+"."+v.Type().Field(n).Name, v.Field(n))...)
		}
	case reflect.Slice:
		all = append(all, span{what, v.Pointer(), v.Pointer() + uintptr(v.Cap())*v.Type().Elem().Size()})
		for n := range v.Len() {
			all = append(all, spans(what+"[]", v.Index(n))...)
		}
	case reflect.String:
		first := uintptr(unsafe.Pointer(unsafe.StringData(v.String())))
		all = append(all, span{what, first, first + uintptr(v.Len())})
	}
	return all
}

// apart asks that no two of some pieces of memory share any.
func apart(t *testing.T, all []span) {
	t.Helper()
	for n, one := range all {
		for _, other := range all[n+1:] {
			if one.first < other.last && other.first < one.last {
				t.Fatalf("P27.8: the %s shares memory with the %s", one.what, other.what)
			}
		}
	}
}

// owned is a code none of whose lists and texts share memory, with spare room behind each list.
func owned(c api.Code) api.Code {
	own := api.Code{Main: c.Main}
	own.Instrs = append(make([]api.Instr, 0, len(c.Instrs)+5), c.Instrs...)
	for _, e := range c.Entrys {
		e.Name, e.Sorts = strings.Clone(e.Name), append(make([]api.Sort, 0, len(e.Sorts)+3), e.Sorts...)
		own.Entrys = append(own.Entrys, e)
	}
	for _, text := range c.Texts {
		own.Texts = append(own.Texts, strings.Clone(text))
	}
	return own
}

// P27.8: what is answered is new memory: apart from what was handed in, from other answers, and within; also where nothing is left to be done.
func TestNewMemory(t *testing.T) {
	short, _ := Shorten(assembled(t, rich))
	for _, c := range []api.Code{owned(assembled(t, rich)), owned(short)} {
		all := spans("code", reflect.ValueOf(c))
		var answers []api.Code
		for _, one := range append(calls(), calls()...) {
			d, _ := one.do(c)
			answers = append(answers, d)
			all = append(all, spans(one.name, reflect.ValueOf(d))...)
		}
		apart(t, all)
		if len(all) < 80 {
			t.Errorf("%d spans", len(all))
		}
		runtime.KeepAlive([]any{c, answers})
	}
}

// whole is a copy of a value whose lists have their spare room told, too.
func whole(v reflect.Value) any {
	switch v.Kind() {
	case reflect.Struct:
		var all []any
		for n := range v.NumField() {
			all = append(all, whole(v.Field(n)))
		}
		return all
	case reflect.Slice:
		var all []any
		for n := range v.Cap() {
			all = append(all, whole(v.Slice(0, v.Cap()).Index(n)))
		}
		return all
	}
	return v.Interface()
}

// P27.8: what is handed in is not changed, spare room included.
func TestUnchanged(t *testing.T) {
	for seed := range seeds(1000) {
		g := newGrower(seed)
		c := owned(g.code(20))
		for n := range c.Instrs[len(c.Instrs):cap(c.Instrs)] {
			c.Instrs[:cap(c.Instrs)][len(c.Instrs)+n] = api.Instr{Op: api.InPop, A: int64(n)}
		}
		if g.Intn(3) == 0 {
			c.Instrs[0].Op = 77 // no code
		}
		before := whole(reflect.ValueOf(c))
		for _, one := range calls() {
			one.do(c)
			if !reflect.DeepEqual(before, whole(reflect.ValueOf(c))) {
				t.Fatalf("P27.8: %s changed %s", one.name, told(c))
			}
		}
	}
}

// P27.8: what becomes of an answer, or what was asked before, makes no difference.
func TestNothingKept(t *testing.T) {
	c := assembled(t, rich)
	for _, one := range calls() {
		first, _ := one.do(c)
		want := owned(first)
		clear(first.Instrs)
		clear(first.Entrys)
		clear(first.Texts)
		one.do(mainOf(t, "nop;jump 2;done"))
		if again, errno := one.do(c); errno != api.OK || !alike.Code(again, want) {
			t.Errorf("P27.8: %s asked again: %s, want %s", one.name, told(again), told(want))
		}
	}
}

// A list that is empty may be nil or not.
func TestEmptyLists(t *testing.T) {
	c := greatest(api.Instr{}, done())
	c.Entrys[0].Sorts = nil
	d := c
	d.Texts, d.Entrys = []string{}, []api.Entry{{Name: "main", Sorts: []api.Sort{}}}
	for _, one := range calls() {
		a, errno := one.do(c)
		b, errnoToo := one.do(d)
		if errno != api.OK || errnoToo != api.OK || !alike.Code(a, b) {
			t.Errorf("P27.1: %s: %d, %d", one.name, errno, errnoToo)
		}
	}
}

// Nothing is shared, so several may ask at once (the race detector sees if something is).
func TestAtOnce(t *testing.T) {
	c := assembled(t, rich)
	want := wantShorten(c)
	var group sync.WaitGroup
	made := make([]api.Code, 8)
	for n := range made {
		group.Go(func() { made[n], _ = Shorten(c) })
	}
	group.Wait()
	for _, d := range made {
		if !alike.Code(d, want) {
			t.Errorf("P27.8: asked at once: %s", told(d))
		}
	}
}
