package events

import (
	"reflect"
	"strconv"
	"strings"
	"testing"

	"retrace/api"
)

const small = `fn f(a: [int], b: text): int { return a[0]; } fn main() { var x: int = f(new int[1], "some"); l: for i = 1 to 2 { if x == i { break l; } print "other", i; } }`

// copied is a value with lists of its own, and with nothing behind them.
func copied(v reflect.Value) reflect.Value {
	own := reflect.New(v.Type()).Elem()
	switch v.Kind() {
	case reflect.Struct:
		for n := range v.NumField() {
			own.Field(n).Set(copied(v.Field(n)))
		}
	case reflect.Slice:
		own.Set(reflect.MakeSlice(v.Type(), v.Len(), v.Len()))
		for n := range v.Len() {
			own.Index(n).Set(copied(v.Index(n)))
		}
	default:
		own.Set(v)
	}
	return own
}

// place is something within a built program that can be changed.
type place struct {
	path string
	v    reflect.Value
}

// places are all numbers, texts and lists within a value.
func places(path string, v reflect.Value) []place {
	var all []place
	switch v.Kind() {
	case reflect.Struct:
		for n := range v.NumField() {
			all = append(all, places(path+"."+v.Type().Field(n).Name, v.Field(n))...)
		}
		return all
	case reflect.Slice:
		for n := range v.Len() {
			all = append(all, places(path+"["+strconv.Itoa(n)+"]", v.Index(n))...)
		}
	}
	return append(all, place{path, v})
}

// changes are ways to change what stands at a place, each to something else.
func changes(p place) []func() {
	v := p.v
	switch v.Kind() {
	case reflect.String:
		was := v.String()
		return []func(){func() { v.SetString(was + "x") }, func() { v.SetString("x" + was) }, func() { v.SetString(strings.Repeat("x", len(was)+1)) }}
	case reflect.Slice:
		more := reflect.Append(v, reflect.Zero(v.Type().Elem()))
		list := []func(){func() { v.Set(more) }}
		if v.Len() > 0 {
			last := v.Slice(0, v.Len()-1)
			twice := reflect.Append(v, v.Index(v.Len()-1))
			list = append(list, func() { v.Set(last) }, func() { v.Set(reflect.Zero(v.Type())) }, func() { v.Set(twice) })
		}
		return list
	}
	was := v.Int()
	return []func(){func() { v.SetInt(was + 1) }, func() { v.SetInt(was - 1) }, func() { v.SetInt(-1 << 63) }, func() { v.SetInt(^was) }}
}

// P17.3, P17.4: a Built in which anything else stands than Build puts there is no built program.
func TestNotBuilt(t *testing.T) {
	p := built(t, small)
	count := len(places("", reflect.ValueOf(p)))
	if count < 500 {
		t.Fatalf("only %d places", count)
	}
	tried := 0
	for n := range count {
		own := copied(reflect.ValueOf(p))
		one := places("", own)[n]
		if one.path == ".Program.Text" {
			continue // below
		}
		for c := range changes(one) {
			own := copied(reflect.ValueOf(p))
			one := places("", own)[n]
			changes(one)[c]()
			refuses(t, one.path, own.Interface().(Built), nil, wide, 100, api.ErrArg)
			tried++
		}
	}
	if tried < 3*count {
		t.Errorf("only %d changes of %d places", tried, count)
	}
	takes(t, "a copy", copied(reflect.ValueOf(p)).Interface().(Built), nil, wide, 100)
}

// P17.3, P17.4: a part of one program and the others of another one.
func TestMixed(t *testing.T) {
	one, other := built(t, small), built(t, ten)
	for parts := range 1 << 6 {
		p := one
		if parts&1 > 0 {
			p.Code = other.Code
		}
		if parts&2 > 0 {
			p.Table = other.Table
		}
		if parts&4 > 0 {
			p.Program.Text = other.Program.Text
		}
		if parts&8 > 0 {
			p.Program.Tree = other.Program.Tree
		}
		if parts&16 > 0 {
			p.Program.Scoped = other.Program.Scoped
		}
		if parts&32 > 0 {
			p.Program.Types = other.Program.Types
		}
		if parts == 0 || parts == 1<<6-1 {
			takes(t, "all of one", p, nil, wide, 100)
		} else {
			refuses(t, "mixed "+strconv.Itoa(parts), p, nil, wide, 100, api.ErrArg)
		}
	}
}

// P17.3, P17.4: the text counts by what Build makes of it: what stands behind its last token makes no other tree, what stands ahead does.
func TestOtherTexts(t *testing.T) {
	p := built(t, small)
	for _, text := range []string{small + " ", small + "\n# a remark", small + strings.Repeat("\t", 20000-len(small)), strings.Replace(small, ") {", ")\n{", 1), strings.Replace(small, " ==", "\t==", 1)} {
		p.Program.Text = text
		takes(t, text[len(text)-10:], p, nil, wide, 100)
	}
	for _, text := range []string{"", " ", "fn", " " + small, small + "$", small + small, small + " fn g() { }", small + strings.Repeat("\t", 20001-len(small)), strings.Replace(small, "  ", " ", 1) + "}", strings.Replace(small, "print", "print ", 1), strings.Replace(small, "some", "same", 1), strings.ReplaceAll(small, "x", "y"), strings.Repeat("x", 1<<22)} {
		p.Program.Text = text
		refuses(t, text[:min(len(text), 50)], p, nil, wide, 100, api.ErrArg)
	}
}

// P17.3, P17.4: a program that is a checked one, with its code and its table, but of another text or with hooks of its own, is no built one.
func TestCheckedButNotBuilt(t *testing.T) {
	p := built(t, "fn main() { print 1; }")
	q := built(t, "fn main() {  print 1; }")
	if !reflect.DeepEqual(p.Code, q.Code) || !reflect.DeepEqual(p.Table, q.Table) {
		t.Fatal("a blank more makes another code")
	}
	p.Program.Text = q.Program.Text
	refuses(t, "another text", p, nil, wide, 100, api.ErrArg)
	p.Program.Text = ""
	refuses(t, "no text", p, nil, wide, 100, api.ErrArg)
	q.Program.Text = "fn main() { @1; @2; print 1; @3; }"
	refuses(t, "a text with hooks", q, nil, wide, 100, api.ErrArg)
}

// emptied is a value whose empty lists are all nil, or all not.
func emptied(v reflect.Value, asNil bool) reflect.Value {
	own := copied(v)
	for _, one := range places("", own) {
		if one.v.Kind() != reflect.Slice || one.v.Len() > 0 {
			continue
		}
		if asNil {
			one.v.Set(reflect.Zero(one.v.Type()))
		} else {
			one.v.Set(reflect.MakeSlice(one.v.Type(), 0, 3))
		}
	}
	return own
}

// P17.3, P17.4: lists that are empty may be nil or not.
func TestEmptyLists(t *testing.T) {
	p := built(t, "fn f() { } fn main() { f(); }")
	for _, asNil := range []bool{false, true} {
		own := emptied(reflect.ValueOf(p), asNil).Interface().(Built)
		if (own.Code.Texts == nil) != asNil || (own.Code.Entrys[0].Sorts == nil) != asNil || (own.Program.Scoped.Funcs[1].Vars == nil) != asNil {
			t.Fatal("nothing is empty")
		}
		takes(t, "empty lists", own, []int64{}, wide, 100)
	}
	refuses(t, "nothing at all", emptied(reflect.ValueOf(Built{}), false).Interface().(Built), nil, wide, 100, api.ErrArg)
}

// P17.9: grown programs with anything in them changed, once or a few times.
func TestChangedGrown(t *testing.T) {
	for seed := range seeds(400) {
		g := grow(t, 3000+seed%100)
		p := newRand(seed)
		own := copied(reflect.ValueOf(g.Built))
		for range 1 + p.Intn(3) {
			all := places("", own)
			ways := changes(all[p.Intn(len(all))])
			ways[p.Intn(len(ways))]()
		}
		made := own.Interface().(Built)
		want, problem := Build(made.Program.Text)
		if problem.Code == api.OK && same(want, made) {
			continue
		}
		refuses(t, g.Program.Text, made, g.input, g.limits, 50, api.ErrArg)
	}
}
