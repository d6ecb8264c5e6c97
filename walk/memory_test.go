package walk

import (
	"reflect"
	"runtime"
	"slices"
	"testing"
	"unsafe"

	"retrace/api"
)

const rich = `fn join(left: text, right: text): text { return left + right; } fn main() { var name: text = "some text"; var list: [text] = new text[3]; list[0] = name; list[1] = "another"; var count: int = 0; read count; list[2] = join(name, list[1]); name = list[2] + ""; print name, count; for turn = 1 to 2 { read count; print turn, count, list[turn]; } }`

// span is a piece of memory.
type span struct {
	what        string
	first, last uintptr
}

func listSpan[T any](what string, list []T) span {
	first := uintptr(unsafe.Pointer(unsafe.SliceData(list)))
	return span{what, first, first + uintptr(cap(list))*unsafe.Sizeof(*new(T))}
}

func textSpan(what, text string) span {
	first := uintptr(unsafe.Pointer(unsafe.StringData(text)))
	return span{what, first, first + uintptr(len(text))}
}

func apart(t *testing.T, a, b []span) {
	t.Helper()
	for _, one := range a {
		for _, other := range b {
			if one.first < other.last && other.first < one.last {
				t.Fatalf("the %s shares memory with the %s", one.what, other.what)
			}
		}
	}
}

func allApart(t *testing.T, spans []span) {
	t.Helper()
	for n := range spans {
		apart(t, spans[n:n+1], spans[n+1:])
	}
}

func runSpans(r api.Run) []span {
	spans := []span{textSpan("output", r.Output), listSpan("events", r.Events), listSpan("arrays", r.Arrays)}
	for _, e := range r.Events {
		spans = append(spans, textSpan("event's name", e.Name), textSpan("event's text", e.Value.Text))
	}
	for _, list := range r.Arrays {
		spans = append(spans, listSpan("array", list))
		for _, v := range list {
			spans = append(spans, textSpan("element's text", v.Text))
		}
	}
	return spans
}

func programSpans(p api.Program) []span {
	spans := []span{textSpan("source", p.Text), listSpan("nodes", p.Tree.Nodes), listSpan("functions", p.Scoped.Funcs)}
	for _, node := range p.Tree.Nodes {
		spans = append(spans, textSpan("node's name", node.Name), textSpan("node's text", node.Text))
	}
	for _, f := range p.Scoped.Funcs {
		spans = append(spans, textSpan("function's name", f.Name), listSpan("variables", f.Vars))
		for _, v := range f.Vars {
			spans = append(spans, textSpan("variable's name", v.Name))
		}
	}
	return spans
}

// machineSpans is the memory of a machine that can be seen without asking its steps.
func machineSpans(m *Machine) []span {
	spans := []span{listSpan("output kept", m.output), listSpan("input kept", m.input), listSpan("values", m.values)}
	for _, f := range m.frames[:cap(m.frames)] {
		spans = append(spans, listSpan("slots", f.slots))
		for _, v := range f.slots {
			spans = append(spans, textSpan("slot's text", v.Text))
		}
	}
	return spans
}

// Answers are new memory: none shares any with what was handed in, with another one, or with what the machine keeps.
func TestNewMemory(t *testing.T) {
	p := front(t, rich)
	input := []int64{1, 2, 3, 4}
	m, _ := New(p, input, wide)
	given := append(programSpans(p), listSpan("input", input))
	var answers []span
	var runs []api.Run // kept, so that no memory is given out twice
	for {
		e, more := m.Step()
		r := m.Result()
		r.Events = []api.Event{e}
		runs = append(runs, r)
		answers = append(answers, runSpans(r)...)
		apart(t, machineSpans(m), answers)
		if !more {
			break
		}
	}
	apart(t, machineSpans(m), given)
	apart(t, answers, given)
	allApart(t, answers)
	runtime.KeepAlive(runs)
	r, _ := Run(p, input, wide, 100)
	again, _ := Run(p, input, wide, 100)
	if r.Outcome.Phase != api.Ended || !sameRun(r, again) {
		t.Fatalf("%v", r)
	}
	apart(t, runSpans(r), given)
	allApart(t, append(runSpans(r), runSpans(again)...))
}

func copied(p api.Program) api.Program {
	p.Tree.Nodes = slices.Clone(p.Tree.Nodes)
	p.Types = slices.Clone(p.Types)
	s := &p.Scoped
	s.Funcs, s.Slots, s.Calls, s.Targets, s.Owners = slices.Clone(s.Funcs), slices.Clone(s.Slots), slices.Clone(s.Calls), slices.Clone(s.Targets), slices.Clone(s.Owners)
	for i := range s.Funcs {
		s.Funcs[i].Vars = slices.Clone(s.Funcs[i].Vars)
	}
	return p
}

// What is handed in is not changed, spare room included.
func TestUnchanged(t *testing.T) {
	p := front(t, rich)
	p.Tree.Nodes = append(p.Tree.Nodes, api.Node{Name: "spare"})[:len(p.Tree.Nodes)]
	p.Types = append(p.Types, "spare")[:len(p.Types)]
	input := []int64{1, 2, 3, 4, 5}
	before := copied(p)
	r, errno := Run(p, input[:4], wide, 100)
	if errno != api.OK || r.Outcome.Phase != api.Ended {
		t.Fatal(errno, r.Outcome)
	}
	if !reflect.DeepEqual(p, before) || !slices.Equal(input, []int64{1, 2, 3, 4, 5}) {
		t.Errorf("what was handed in is changed")
	}
	if p.Tree.Nodes[:len(p.Tree.Nodes)+1][len(p.Tree.Nodes)].Name != "spare" || p.Types[:len(p.Types)+1][len(p.Types)] != "spare" {
		t.Errorf("the spare room is changed")
	}
}

// P11.1: a walk is not changed by what becomes of the lists that were handed in.
func TestListsChanged(t *testing.T) {
	p := front(t, rich)
	input := []int64{1, 2, 3, 4}
	wanted, _ := Run(p, input, wide, 100)
	for stop := range wanted.Events {
		q, numbers := copied(p), slices.Clone(input)
		m, errno := New(q, numbers, wide)
		if errno != api.OK {
			t.Fatal(errno)
		}
		for at := range wanted.Events {
			if at == stop {
				spoil(q)
				clear(numbers)
			}
			if e, more := m.Step(); !more || e != wanted.Events[at] {
				t.Fatalf("spoilt ahead of event %d, event %d is %v", stop+1, at+1, e)
			}
		}
		if _, more := m.Step(); more {
			t.Fatalf("spoilt ahead of event %d it goes on", stop+1)
		}
		r := m.Result()
		r.Events = wanted.Events
		if !sameRun(r, wanted) {
			t.Fatalf("spoilt ahead of event %d: %v", stop+1, r)
		}
	}
}

func spoil(p api.Program) {
	clear(p.Tree.Nodes)
	clear(p.Types)
	for i := range p.Scoped.Funcs {
		clear(p.Scoped.Funcs[i].Vars)
	}
	clear(p.Scoped.Funcs)
	for _, list := range [][]int{p.Scoped.Slots, p.Scoped.Calls, p.Scoped.Targets, p.Scoped.Owners} {
		for i := range list {
			list[i] = 1 << 40
		}
	}
}

// P11.3: what becomes of an answer is nothing to the walk, and asking changes nothing.
func TestAnswersChanged(t *testing.T) {
	p := front(t, rich)
	input := []int64{1, 2, 3, 4}
	wanted, _ := Run(p, input, wide, 100)
	m, _ := New(p, input, wide)
	for at := range wanted.Events {
		if e, more := m.Step(); !more || e != wanted.Events[at] {
			t.Fatalf("event %d is %v", at+1, e)
		}
		first, second := m.Result(), m.Result()
		if !sameRun(first, second) {
			t.Fatalf("behind event %d: %v, and then %v", at+1, first, second)
		}
		for _, list := range first.Arrays {
			for i := range list {
				list[i] = api.Value{Kind: 99}
			}
		}
		first.Arrays[0] = append(first.Arrays[0], api.Value{Kind: 98})
		if !sameRun(second, m.Result()) {
			t.Fatalf("behind event %d the answer's change is seen", at+1)
		}
	}
	m.Step()
	r := m.Result()
	r.Events = wanted.Events
	if !sameRun(r, wanted) {
		t.Errorf("at the end %v, want %v", r, wanted)
	}
}

// However long a run goes on, what it keeps is what it still needs.
func TestNothingPilesUp(t *testing.T) {
	for _, text := range []string{
		`fn f(): int { for i = 1 to 2 { while true { { return i; } } } return 9; } fn main() { while true { f(); f(); } }`,
		`fn f(n: int) { if n > 0 { f(n - 1); } } fn main() { var x: int = 0; while true { f(3); x = x + 1; if x % 3 == 0 { continue; } f(1); } }`,
		`fn main() { out: while true { for i = 1 to 3 { for j = 1 to 3 { if i == 2 { continue out; } if j == 2 { break; } } } } }`,
		`fn f(): bool { return true; } fn main() { while f() && !(f() && !f()) { if f() || f() { } else if f() { } } }`,
	} {
		m, _ := New(front(t, text), nil, wide)
		for range 200000 {
			if _, more := m.Step(); !more {
				t.Fatalf("%s ends", text)
			}
			if len(m.todo) > 60 || len(m.values) > 9 || len(m.frames) > 6 {
				t.Fatalf("%s: %d steps, %d values, %d frames are kept", text, len(m.todo), len(m.values), len(m.frames))
			}
		}
	}
	m, _ := New(front(t, `fn f(): int { return 1; } fn main() { f(); f(); }`), nil, wide)
	for more := true; more; {
		_, more = m.Step()
	}
	if len(m.todo) > 0 || len(m.values) > 0 || len(m.frames) > 0 {
		t.Errorf("at the end %d steps, %d values, %d frames are kept", len(m.todo), len(m.values), len(m.frames))
	}
}
