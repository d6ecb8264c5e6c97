package vm

import (
	"reflect"
	"runtime"
	"slices"
	"sync"
	"testing"
	"unsafe"

	"retrace/api"
)

// rich is a code that has texts wherever texts can be: in slots, on stacks, in arrays, in yields.
const rich = "main 1;pool \"some text\";pool \"more\";fn join 2 text text text [text];show 3 0;load 0;load 1;bin +;tell 4;ret;fn main 0 - text [text] int;text 0;store 0;int 3;new text;store 1;load 1;int 0;load 0;put;show 1 0;read;store 2;load 1;int 1;load 0;text 1;call 0;put;load 1;int 1;get;tell 2;store 0;load 0;load 2;print 2;read;print 1;emit 9;text 1;text 0;load 0;done"

func richCode(t *testing.T) api.Code { return assembled(t, rich) }

// span is a piece of memory.
type span struct {
	what        string
	first, last uintptr
}

func listSpan[T any](what string, list []T) span {
	first := uintptr(unsafe.Pointer(unsafe.SliceData(list)))
	return span{what, first, first + uintptr(cap(list))*unsafe.Sizeof(*new(T))}
}

func textSpan(what, text string) span {
	first := uintptr(unsafe.Pointer(unsafe.StringData(text)))
	return span{what, first, first + uintptr(len(text))}
}

func apart(t *testing.T, a, b []span) {
	t.Helper()
	for _, one := range a {
		for _, other := range b {
			if one.first < other.last && other.first < one.last {
				t.Fatalf("the %s shares memory with the %s", one.what, other.what)
			}
		}
	}
}

func valueSpans(what string, list []api.Value) []span {
	spans := []span{listSpan(what, list)}
	for _, v := range list[:cap(list)] {
		spans = append(spans, textSpan(what+"'s text", v.Text))
	}
	return spans
}

func codeSpans(c api.Code) []span {
	spans := []span{listSpan("instructions", c.Instrs), listSpan("functions", c.Entrys), listSpan("texts", c.Texts)}
	for _, e := range c.Entrys {
		spans = append(spans, textSpan("function's name", e.Name), listSpan("function's sorts", e.Sorts))
	}
	for _, text := range c.Texts {
		spans = append(spans, textSpan("text", text))
	}
	return spans
}

// machineSpans is the memory of a machine, but that of its heap, which is package cells' business.
func machineSpans(m *Machine) []span {
	spans := append(codeSpans(m.code), listSpan("input kept", m.input), listSpan("output kept", m.output), listSpan("frames", m.frames))
	for _, f := range m.frames[:cap(m.frames)] {
		spans = append(spans, valueSpans("slot", f.slots)...)
		spans = append(spans, valueSpans("stack", f.stack)...)
	}
	return spans
}

func runSpans(run api.Run) []span {
	spans := []span{textSpan("output", run.Output), listSpan("arrays", run.Arrays)}
	for _, list := range run.Arrays {
		spans = append(spans, valueSpans("array", list)...)
	}
	return spans
}

// Answers are new memory: none shares any with what was handed in, with another one, or with what a machine keeps.
func TestNewMemory(t *testing.T) {
	c, input := richCode(t), []int64{7, 8}
	given := append(codeSpans(c), listSpan("input", input))
	m, _ := New(c, input, api.Limits{Depth: 3, Cells: 9})
	apart(t, machineSpans(m), given)
	var kept []any // so that no memory is given out twice
	var answers []span
	for m.outcome.Phase == api.Running {
		y, _ := m.Step()
		run, saved := m.Result(), m.Save()
		told := append(runSpans(run), textSpan("yield's text", y.Value.Text), textSpan("saved bytes", saved))
		apart(t, told, answers)
		apart(t, told, given)
		apart(t, told, machineSpans(m))
		for n := range told {
			apart(t, told[n:n+1], told[n+1:])
		}
		answers, kept = append(answers, told...), append(kept, y, run, saved)
		twin := m.Clone()
		again, errno := Load(c, input, api.Limits{Depth: 3, Cells: 9}, saved)
		if errno != api.OK {
			t.Fatal(errno)
		}
		for _, other := range []*Machine{twin, again} {
			apart(t, machineSpans(other), machineSpans(m))
			apart(t, machineSpans(other), given)
			apart(t, machineSpans(other), []span{textSpan("saved bytes", saved)})
		}
		apart(t, machineSpans(twin), machineSpans(again))
		kept = append(kept, twin, again)
	}
	if run := m.Result(); run.Outcome != ended() || run.Output != "some textmore 7\n8\n" {
		t.Errorf("%v", run)
	}
	runtime.KeepAlive(kept)
	runtime.KeepAlive(c)
}

// spare is a list with something in its spare room.
func spare[T any](list []T, more T) []T {
	return append(slices.Clip(list), more, more)[:len(list)]
}

func wholeCode(c api.Code) []any {
	all := []any{c.Main, slices.Clone(c.Instrs[:cap(c.Instrs)]), slices.Clone(c.Entrys[:cap(c.Entrys)]), slices.Clone(c.Texts[:cap(c.Texts)])}
	for _, e := range c.Entrys {
		all = append(all, slices.Clone(e.Sorts[:cap(e.Sorts)]))
	}
	return all
}

// What is handed in is not changed, spare room included.
func TestUnchanged(t *testing.T) {
	c, input := richCode(t), spare([]int64{7, 8}, 99)
	c.Instrs, c.Entrys, c.Texts = spare(c.Instrs, api.Instr{Op: 99}), spare(c.Entrys, api.Entry{Name: "spare"}), spare(c.Texts, "spare")
	for f := range c.Entrys {
		c.Entrys[f].Sorts = spare(c.Entrys[f].Sorts, 77)
	}
	before, numbers := wholeCode(c), slices.Clone(input[:cap(input)])
	m, _ := New(c, input, api.Limits{Depth: 3, Cells: 9})
	for m.outcome.Phase == api.Running {
		m.Step()
		Load(c, input, api.Limits{Depth: 3, Cells: 9}, m.Save())
	}
	if m.outcome != ended() || !reflect.DeepEqual(wholeCode(c), before) || !slices.Equal(input[:cap(input)], numbers) {
		t.Errorf("what was handed in is changed")
	}
}

func spoilCode(c api.Code) {
	for _, e := range c.Entrys {
		clear(e.Sorts)
	}
	clear(c.Instrs)
	clear(c.Entrys)
	clear(c.Texts)
}

// A machine is not changed by what becomes of the lists that were handed in, or of what it told.
func TestListsChanged(t *testing.T) {
	l := api.Limits{Depth: 3, Cells: 9}
	want, _ := New(richCode(t), []int64{7, 8}, l)
	var saves []string
	for want.outcome.Phase == api.Running {
		saves = append(saves, want.Save())
		want.Step()
	}
	for stop := range saves {
		c, input := richCode(t), []int64{7, 8}
		made, _ := New(c, input, l)
		read, errno := Load(c, input, l, saves[stop])
		if errno != api.OK {
			t.Fatal(errno)
		}
		for at := range saves {
			if at == stop {
				spoilCode(c)
				clear(input)
			}
			for _, m := range []*Machine{made, read} {
				if m == read && at < stop {
					continue
				}
				if m.Save() != saves[at] {
					t.Fatalf("spoilt behind %d steps, Save is %x, want %x", stop, m.Save(), saves[at])
				}
				run := m.Result()
				for _, list := range run.Arrays {
					for n := range list {
						list[n] = api.Value{Kind: 99}
					}
				}
				clear(run.Arrays)
				m.Step()
			}
		}
		if made.Save() != want.Save() || read.Save() != want.Save() {
			t.Fatalf("spoilt behind %d steps: %v, %v", stop, made.Result(), read.Result())
		}
	}
}

// P16.8: what is done to a machine is not seen in its clone, nor the other way, at any step.
func TestClones(t *testing.T) {
	for seed := range seeds(1500) {
		g := newGrower(seed)
		c, input, l := g.safe(60), g.input(), g.roomy()
		if seed%2 == 0 {
			c = richCode(t)
			input, l = []int64{7, 8}, api.Limits{Depth: 3, Cells: 9}
		}
		p := runs(t, c, input, l)
		p.run(t, g.Intn(40))
		twin := p.clone()
		twin.agrees(t)
		third := twin.clone()
		for range 30 {
			pick(g, []*pair{p, twin, third}).step(t)
			p.agrees(t)
			twin.agrees(t)
			third.agrees(t)
		}
	}
}

// Machines share nothing, so each can be run by a goroutine of its own (the race detector sees if they do).
func TestClonesAtOnce(t *testing.T) {
	m, _ := New(richCode(t), []int64{7, 8}, api.Limits{Depth: 3, Cells: 9})
	m.Run(1)
	var all sync.WaitGroup
	saves := make([]string, 8)
	for n := range saves {
		twin := m.Clone()
		all.Go(func() {
			for range 50 {
				twin.Step()
			}
			saves[n] = twin.Save()
		})
	}
	for range 50 {
		m.Step()
	}
	all.Wait()
	for _, saved := range saves {
		if saved != m.Save() {
			t.Errorf("%x, want %x", saved, m.Save())
		}
	}
}

// However long a run goes on, what it keeps is what it still needs.
func TestNothingPilesUp(t *testing.T) {
	c := assembled(t, "main 0;pool \"x\";fn main 0 -;int 3;call 1;pop;jump 0;fn f 1 text int text;text 0;store 1;load 0;int 1;bin <;false 12;load 1;ret;load 0;int 1;bin -;call 1;load 1;bin +;ret")
	m, _ := New(c, nil, api.Limits{Depth: 100})
	for range 100000 {
		m.Step()
		if len(m.frames) > 6 || cap(m.frames) > 16 {
			t.Fatalf("%d frames, room for %d", len(m.frames), cap(m.frames))
		}
		for n, f := range m.frames[:cap(m.frames)] {
			if n >= len(m.frames) && (f.slots != nil || f.stack != nil) || cap(f.stack) > 8 {
				t.Fatalf("frame %d of %d keeps %v, %v", n+1, len(m.frames), f.slots, f.stack[:cap(f.stack)])
			}
		}
	}
	if m.outcome.Phase != api.Running {
		t.Errorf("%v", m.Result())
	}
}
