package view

import (
	"reflect"
	"strconv"
	"strings"
	"testing"

	"retrace/api"
	"retrace/flow"
)

const small = `fn f(a: [int], b: text): int { return a[0]; } fn main() { var x: int = f(new int[1], "some"); l: for i = 1 to 2 { if x == i { break l; } print "other", i; } }`

// copied is a value with lists of its own, and with nothing behind them.
func copied(v reflect.Value) reflect.Value {
	own := reflect.New(v.Type()).Elem()
	switch v.Kind() {
	case reflect.Struct:
		for n := range v.NumField() {
			own.Field(n).Set(copied(v.Field(n)))
		}
	case reflect.Slice:
		own.Set(reflect.MakeSlice(v.Type(), v.Len(), v.Len()))
		for n := range v.Len() {
			own.Index(n).Set(copied(v.Index(n)))
		}
	default:
		own.Set(v)
	}
	return own
}

func copiedProgram(p api.Program) api.Program {
	return copied(reflect.ValueOf(p)).Interface().(api.Program)
}

// place is something within a program that can be changed.
type place struct {
	path string
	v    reflect.Value
}

// places are all numbers, texts and lists within a value.
func places(path string, v reflect.Value) []place {
	var all []place
	switch v.Kind() {
	case reflect.Struct:
		for n := range v.NumField() {
			all = append(all, places(path+"."+v.Type().Field(n).Name, v.Field(n))...)
		}
		return all
	case reflect.Slice:
		for n := range v.Len() {
			all = append(all, places(path+"["+strconv.Itoa(n)+"]", v.Index(n))...)
		}
	}
	return append(all, place{path, v})
}

// changes are ways to change what stands at a place, each to something else.
func changes(p place) []func() {
	v := p.v
	switch v.Kind() {
	case reflect.String:
		was := v.String()
		return []func(){func() { v.SetString(was + "x") }, func() { v.SetString("x" + was) }, func() { v.SetString(strings.Repeat("x", len(was)+1)) }}
	case reflect.Slice:
		more := reflect.Append(v, reflect.Zero(v.Type().Elem()))
		list := []func(){func() { v.Set(more) }}
		if v.Len() > 0 {
			last := v.Slice(0, v.Len()-1)
			twice := reflect.Append(v, v.Index(v.Len()-1))
			list = append(list, func() { v.Set(last) }, func() { v.Set(reflect.Zero(v.Type())) }, func() { v.Set(twice) })
		}
		return list
	}
	was := v.Int()
	return []func(){func() { v.SetInt(was + 1) }, func() { v.SetInt(was - 1) }, func() { v.SetInt(-1 << 63) }, func() { v.SetInt(^was) }}
}

// isChecked is the document's word: flow.Tree answers just its Scoped and Types.
func isChecked(p api.Program) bool {
	own, problem := flow.Tree(p.Tree)
	nilled := func(q api.Program) any {
		return emptied(reflect.ValueOf(api.Program{Scoped: q.Scoped, Types: q.Types}), true).Interface()
	}
	return problem.Code == api.OK && reflect.DeepEqual(nilled(own), nilled(p))
}

// emptied is a value whose empty lists are all nil, or all not.
func emptied(v reflect.Value, asNil bool) reflect.Value {
	own := copied(v)
	for _, one := range places("", own) {
		if one.v.Kind() == reflect.Slice && one.v.Len() == 0 {
			if asNil {
				one.v.SetZero()
			} else {
				one.v.Set(reflect.MakeSlice(one.v.Type(), 0, 3))
			}
		}
	}
	return own
}

// judges holds New against what a checked program is, and tells whether it was one.
func judges(t *testing.T, what string, p api.Program) bool {
	t.Helper()
	v, errno := New(p)
	want := isChecked(p)
	if want && (v == nil || errno != api.OK) || !want && (v != nil || errno != api.ErrArg) {
		t.Fatalf("%s: %v, %d, checked: %v", what, v, errno, want)
	}
	if want {
		if v.Count() != 0 || v.Depth() != 0 || len(v.Frames()) != 0 {
			t.Fatalf("%s: the view of no event has %d events, %d frames", what, v.Count(), v.Depth())
		}
	}
	return want
}

// P18.1: a program in which anything else stands is a checked one or none; the text does not count.
func TestNotChecked(t *testing.T) {
	p := front(t, small)
	count := len(places("", reflect.ValueOf(p)))
	took, refused := 0, 0
	for n := range count {
		for c := range changes(places("", copied(reflect.ValueOf(p)))[n]) {
			own := copied(reflect.ValueOf(p))
			one := places("", own)[n]
			changes(one)[c]()
			taken := judges(t, one.path, own.Interface().(api.Program))
			if taken {
				took++
			} else {
				refused++
			}
			if inTree := strings.HasPrefix(one.path, ".Tree"); !inTree && taken != (one.path == ".Text") {
				t.Errorf("%s changed: taken is %v", one.path, taken)
			}
		}
	}
	if count < 400 || took < 50 || refused < 1000 {
		t.Errorf("%d places: %d taken, %d refused", count, took, refused)
	}
}

// P18.1: parts of two programs, and lists that are empty, nil or not.
func TestMixed(t *testing.T) {
	one, other := front(t, small), front(t, example)
	for parts := range 1 << 4 {
		p := one
		if parts&1 > 0 {
			p.Text = other.Text
		}
		if parts&2 > 0 {
			p.Tree = other.Tree
		}
		if parts&4 > 0 {
			p.Scoped = other.Scoped
		}
		if parts&8 > 0 {
			p.Types = other.Types
		}
		if taken := judges(t, "mixed", p); taken != (parts>>1 == 0 || parts>>1 == 7) {
			t.Errorf("parts %b: taken is %v", parts, taken)
		}
	}
	for _, asNil := range []bool{false, true} {
		p := emptied(reflect.ValueOf(one), asNil).Interface().(api.Program)
		if !judges(t, "empty lists", p) {
			t.Errorf("empty lists as nil, %v: refused", asNil)
		}
	}
	if judges(t, "nothing", api.Program{}) || judges(t, "nothing", api.Program{Text: small}) {
		t.Errorf("nothing is taken")
	}
	expression := api.Program{Tree: api.Tree{Nodes: []api.Node{{Kind: api.KInt, Size: 1}}}}
	if judges(t, "an expression", expression) {
		t.Errorf("an expression is taken")
	}
}

// P18.7: a view that New did not make takes nothing and tells nothing.
func TestNoView(t *testing.T) {
	var v View
	for _, w := range []*View{&v, new(View), v.Clone(), v.Clone().Clone()} {
		for kind := api.EventKind(-1); kind <= 10; kind++ {
			for n := -2; n < 5; n++ {
				if errno := w.Take(api.Event{Kind: kind, Node: n, Name: "main"}); errno != api.ErrFold {
					t.Errorf("Take: %d", errno)
				}
			}
		}
		if e, some := w.Last(); e != (api.Event{}) || some || w.Count() != 0 || w.Depth() != 0 || len(w.Frames()) != 0 {
			t.Errorf("%v, %v, %d, %d, %v", e, some, w.Count(), w.Depth(), w.Frames())
		}
	}
}
