package events

import (
	"reflect"
	"runtime"
	"slices"
	"strings"
	"sync"
	"testing"
	"unsafe"

	"retrace/api"
)

const rich = `fn join(left: text, right: text): text { return left + right; } fn main() { var name: text = "some text"; var list: [text] = new text[3]; list[0] = name; var count: int = 0; outer: for turn = 1 to 2 { read count; print turn, count, list[turn]; while true { break outer; } } name = join(list[0], "more"); }`

// span is a piece of memory.
type span struct {
	what        string
	first, last uintptr
}

func textSpan(what, text string) span {
	first := uintptr(unsafe.Pointer(unsafe.StringData(text)))
	return span{what, first, first + uintptr(len(text))}
}

// spans is the memory of all lists within a value, spare room included, and of its texts, if they are asked for.
func spans(what string, v reflect.Value, texts bool) []span {
	var all []span
	switch v.Kind() {
	case reflect.Struct:
		for n := range v.NumField() {
			all = append(all, spans(what+"."+v.Type().Field(n).Name, v.Field(n), texts)...)
		}
	case reflect.Slice:
		all = append(all, span{what, v.Pointer(), v.Pointer() + uintptr(v.Cap())*v.Type().Elem().Size()})
		for n := range v.Len() {
			all = append(all, spans(what+"[]", v.Index(n), texts)...)
		}
	case reflect.String:
		if texts {
			all = append(all, textSpan(what, v.String()))
		}
	}
	return all
}

func apart(t *testing.T, a, b []span) {
	t.Helper()
	for _, one := range a {
		for _, other := range b {
			if one.first < other.last && other.first < one.last {
				t.Fatalf("the %s shares memory with the %s", one.what, other.what)
			}
		}
	}
}

// apartWithin asks that nothing of an answer shares memory with anything else of it.
func apartWithin(t *testing.T, a []span) {
	t.Helper()
	for n := range a {
		apart(t, a[n:n+1], a[n+1:])
	}
}

// P17.9: what Build tells is new memory.
func TestBuildMemory(t *testing.T) {
	text := strings.Clone(rich)
	given := []span{textSpan("text", text)}
	one, other := built(t, text), built(t, text)
	first, second := spans("one", reflect.ValueOf(one), false), spans("other", reflect.ValueOf(other), false)
	if len(first) < 15 {
		t.Fatalf("only %d lists", len(first))
	}
	apartWithin(t, first)
	apart(t, first, second)
	for _, p := range []Built{one, other} {
		apart(t, spans("built", reflect.ValueOf(p), true), given)
	}
	words := func(p Built) [][]span {
		return [][]span{spans("tree", reflect.ValueOf(p.Program.Tree), true), spans("meanings", reflect.ValueOf(p.Program.Scoped), true), spans("code", reflect.ValueOf(p.Code), true), spans("table", reflect.ValueOf(p.Table), true)}
	}
	for n, part := range words(one) {
		for m, another := range words(other) {
			apart(t, part, another)
			if n != m {
				apart(t, part, words(one)[m])
			}
		}
	}
	runtime.KeepAlive([]any{one, other, text})
}

// P17.9: so is what Read tells, its texts too.
func TestReadMemory(t *testing.T) {
	table := []api.Hook{{Kind: api.EvSet, Node: 1, Name: strings.Repeat("name", 3)}}
	y := api.Yield{Hook: 1, Has: true, Value: x(strings.Repeat("value", 3))}
	given := append(spans("table", reflect.ValueOf(table), true), spans("yield", reflect.ValueOf(y), true)...)
	one, _ := Read(table, y)
	other, _ := Read(table, y)
	if one != other || one.Name == "" || one.Value.Text == "" {
		t.Fatal(one, other)
	}
	first, second := spans("event", reflect.ValueOf(one), true), spans("other event", reflect.ValueOf(other), true)
	apart(t, first, given)
	apart(t, first, second)
	apartWithin(t, first)
	runtime.KeepAlive([]any{one, other, table, y})
}

// P17.9: and what Run and Marks tell.
func TestRunMemory(t *testing.T) {
	p, input := built(t, rich), []int64{7, 8}
	given := append(spans("built", reflect.ValueOf(p), true), spans("input", reflect.ValueOf(input), true)...)
	var answers [][]span
	var kept []any // so that no memory is given out twice
	for range 2 {
		run, errno := Run(p, input, wide, 1000)
		marks, other := Marks(p, input, wide, 1000)
		if errno != api.OK || other != api.OK || run.Outcome != ended() || len(marks) != len(run.Events) || len(run.Arrays) != 2 {
			t.Fatal(errno, other, run)
		}
		answers = append(answers, spans("run", reflect.ValueOf(run), true), spans("marks", reflect.ValueOf(marks), true))
		kept = append(kept, run, marks)
	}
	for n, answer := range answers {
		apart(t, answer, given)
		apartWithin(t, answer)
		for _, other := range answers[n+1:] {
			apart(t, answer, other)
		}
	}
	runtime.KeepAlive([]any{p, input, kept})
}

// roomy is a value with something in the spare room of its lists, which differs from one to the other.
func roomy(v reflect.Value) reflect.Value {
	own := copied(v)
	for _, one := range places("", own) {
		if one.v.Kind() == reflect.Slice {
			length := one.v.Len()
			more := one.v
			for range 3 {
				spare := reflect.New(one.v.Type().Elem()).Elem()
				for _, inner := range places("", spare) {
					switch inner.v.Kind() {
					case reflect.String:
						inner.v.SetString("spare")
					case reflect.Int, reflect.Int64:
						inner.v.SetInt(99)
					}
				}
				more = reflect.Append(more, spare)
			}
			one.v.Set(more.Slice(0, length))
		}
	}
	return own
}

// whole is all that lies in the lists of a value, in their spare room too.
func whole(v reflect.Value) any {
	var all []any
	switch v.Kind() {
	case reflect.Struct:
		for n := range v.NumField() {
			all = append(all, whole(v.Field(n)))
		}
	case reflect.Slice:
		full := v.Slice(0, v.Cap())
		for n := range full.Len() {
			all = append(all, whole(full.Index(n)))
		}
	default:
		return v.Interface()
	}
	return all
}

// P17.9: what is handed in is not changed, spare room included.
func TestUnchanged(t *testing.T) {
	p := roomy(reflect.ValueOf(built(t, rich))).Interface().(Built)
	input := roomy(reflect.ValueOf([]int64{7, 8})).Interface().([]int64)
	before := []any{whole(reflect.ValueOf(p)), whole(reflect.ValueOf(input))}
	want := grown{built(t, rich), []int64{7, 8}, wide}.run(t, 1000)
	for _, steps := range []int{-1, 0, 10, 1000, 1000001} {
		run, _ := Run(p, input, wide, steps)
		Marks(p, input, wide, steps)
		if steps == 1000 && !sameRun(run, want) {
			t.Errorf("%v, want %v", run, want)
		}
	}
	for n := range p.Table {
		Read(p.Table, api.Yield{Hook: n + 1, Has: n%2 == 0, Value: x("text")})
	}
	Build(p.Program.Text)
	if after := []any{whole(reflect.ValueOf(p)), whole(reflect.ValueOf(input))}; !reflect.DeepEqual(before, after) {
		t.Errorf("what was handed in is changed")
	}
	if p.Table[:cap(p.Table)][len(p.Table)].Name != "spare" || input[:3][2] != 99 {
		t.Errorf("nothing lay in the spare room")
	}
}

// What becomes of an answer is nothing to the next one.
func TestAgain(t *testing.T) {
	p := built(t, rich)
	again := built(t, rich)
	for _, one := range places("", reflect.ValueOf(&p).Elem()) {
		if one.v.Kind() == reflect.Slice {
			all := one.v.Slice(0, one.v.Cap())
			for n := range all.Len() {
				all.Index(n).SetZero()
			}
		}
	}
	g := grown{again, []int64{7, 8}, wide}
	if third := built(t, rich); !same(third, again) {
		t.Errorf("another program is built")
	}
	run, marks := g.run(t, 1000), g.marks(t, 1000)
	events := slices.Clone(run.Events)
	numbers := slices.Clone(marks)
	clear(run.Events[:cap(run.Events)])
	clear(marks[:cap(marks)])
	for _, list := range run.Arrays {
		clear(list[:cap(list)])
	}
	if next := g.run(t, 1000); !slices.Equal(next.Events, events) || len(next.Arrays[1]) != 3 || next.Arrays[1][0] != x("some text") || !slices.Equal(g.marks(t, 1000), numbers) {
		t.Errorf("another run: %v", next)
	}
}

// Runs of one built program share nothing, so each can be done by a goroutine of its own (the race detector sees if they do).
func TestAtOnce(t *testing.T) {
	g := grown{built(t, rich), []int64{7, 8}, wide}
	want := g.run(t, 1000)
	var all sync.WaitGroup
	runs := make([]api.Run, 8)
	for n := range runs {
		all.Go(func() {
			runs[n], _ = Run(g.Built, g.input, g.limits, 1000)
			Marks(g.Built, g.input, g.limits, 1000)
		})
	}
	all.Wait()
	for _, run := range runs {
		if !sameRun(run, want) {
			t.Errorf("%v, want %v", run, want)
		}
	}
}
