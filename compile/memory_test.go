package compile

import (
	"reflect"
	"runtime"
	"slices"
	"testing"
	"unsafe"

	"retrace/api"
)

const rich = `fn join(left: text, right: text): text { return left + right; } fn main() { var name: text = "some text"; var list: [text] = new text[3]; list[0] = name; var count: int = 0; outer: for turn = 1 to 2 { read count; print turn, count, list[turn]; while true { break outer; } } @3 name; name = join(list[0], "more"); }`

// span is a piece of memory.
type span struct {
	what        string
	first, last uintptr
}

func listSpan[T any](what string, list []T) span {
	first := uintptr(unsafe.Pointer(unsafe.SliceData(list)))
	return span{what, first, first + uintptr(cap(list))*unsafe.Sizeof(*new(T))}
}

func textSpan(what, text string) span {
	first := uintptr(unsafe.Pointer(unsafe.StringData(text)))
	return span{what, first, first + uintptr(len(text))}
}

func codeSpans(made api.Code) []span {
	spans := []span{listSpan("instructions", made.Instrs), listSpan("functions", made.Entrys), listSpan("texts", made.Texts)}
	for _, e := range made.Entrys {
		spans = append(spans, textSpan("function's name", e.Name), listSpan("function's sorts", e.Sorts))
	}
	for _, text := range made.Texts {
		spans = append(spans, textSpan("text", text))
	}
	return spans
}

func programSpans(p api.Program) []span {
	spans := []span{listSpan("nodes", p.Tree.Nodes), textSpan("source", p.Text), listSpan("scoped functions", p.Scoped.Funcs), listSpan("types", p.Types)}
	for _, node := range p.Tree.Nodes {
		spans = append(spans, textSpan("node's name", node.Name), textSpan("node's label", node.Label), textSpan("node's type", node.Type), textSpan("node's text", node.Text))
	}
	for _, f := range p.Scoped.Funcs {
		spans = append(spans, textSpan("scoped name", f.Name), listSpan("variables", f.Vars))
	}
	return spans
}

func apart(t *testing.T, a, b []span) {
	t.Helper()
	for _, one := range a {
		for _, other := range b {
			if one.first < other.last && other.first < one.last {
				t.Fatalf("the %s share memory with the %s", one.what, other.what)
			}
		}
	}
}

// P15.8: answers are new memory: they share none with what was handed in, and none with one another.
func TestNewMemory(t *testing.T) {
	p := program(t, rich)
	one, _ := Program(p)
	other, _ := Program(p)
	if len(one.Texts) != 2 || len(one.Entrys) != 2 || !same(one, other) {
		t.Fatal("something is missing")
	}
	first, second := codeSpans(one), codeSpans(other)
	apart(t, first, programSpans(p))
	apart(t, first, second)
	for n := range first {
		apart(t, first[n:n+1], first[n+1:])
	}
	runtime.KeepAlive([]any{one, other, p})
}

// P15.8: what is handed in is not changed, spare room included.
func TestUnchanged(t *testing.T) {
	p := program(t, rich)
	p.Tree.Nodes = append(slices.Clip(p.Tree.Nodes), api.Node{Name: "spare"}, api.Node{Kind: 99})[:len(p.Tree.Nodes)]
	p.Types = append(slices.Clip(p.Types), "spare")[:len(p.Types)]
	for _, list := range []*[]int{&p.Scoped.Slots, &p.Scoped.Calls, &p.Scoped.Targets, &p.Scoped.Owners} {
		*list = append(slices.Clip(*list), 99)[:len(*list)]
	}
	for i, f := range p.Scoped.Funcs {
		p.Scoped.Funcs[i].Vars = append(slices.Clip(f.Vars), api.Var{Name: "spare"})[:len(f.Vars)]
	}
	whole := func() []any {
		all := []any{p.Text, slices.Clone(p.Tree.Nodes[:cap(p.Tree.Nodes)]), slices.Clone(p.Types[:cap(p.Types)]), slices.Clone(p.Scoped.Funcs)}
		for _, list := range [][]int{p.Scoped.Slots, p.Scoped.Calls, p.Scoped.Targets, p.Scoped.Owners} {
			all = append(all, slices.Clone(list[:cap(list)]))
		}
		for _, f := range p.Scoped.Funcs {
			all = append(all, slices.Clone(f.Vars[:cap(f.Vars)]))
		}
		return all
	}
	before := whole()
	made, errno := Program(p)
	want, _ := Program(program(t, rich))
	if errno != api.OK || !same(made, want) {
		t.Fatal(errno)
	}
	if !reflect.DeepEqual(before, whole()) {
		t.Errorf("what was handed in is changed")
	}
}

// P15.8: what becomes of an answer, or of what was handed in, is nothing to the next answer.
func TestAgain(t *testing.T) {
	p := program(t, rich)
	made, _ := Program(p)
	want, _ := wanted(p)
	clear(made.Instrs[:cap(made.Instrs)])
	clear(made.Texts[:cap(made.Texts)])
	for _, e := range made.Entrys {
		clear(e.Sorts[:cap(e.Sorts)])
	}
	clear(made.Entrys[:cap(made.Entrys)])
	again, errno := Program(p)
	if errno != api.OK || !same(again, want) {
		t.Errorf("another answer: %d", errno)
	}
	clear(p.Tree.Nodes)
	clear(p.Types)
	clear(p.Scoped.Funcs)
	if !same(again, want) {
		t.Errorf("the answer has changed")
	}
}

// P15.8: a program that is given up leaves nothing behind.
func TestAgainBehindExcess(t *testing.T) {
	p := program(t, rich)
	want, _ := Program(p)
	if _, errno := Program(mainOf(t, printed(tower(401)))); errno != api.ErrSize {
		t.Fatal(errno)
	}
	if again, errno := Program(p); errno != api.OK || !same(again, want) {
		t.Errorf("another answer: %d", errno)
	}
}
