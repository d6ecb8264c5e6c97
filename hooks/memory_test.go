package hooks

import (
	"reflect"
	"runtime"
	"slices"
	"testing"
	"unsafe"

	"retrace/api"
)

const rich = `fn join(left: text, right: text): text { return left + right; } fn main() { var name: text = "some text"; var list: [text] = new text[3]; list[0] = name; var count: int = 0; outer: for turn = 1 to 2 { read count; print turn, count, list[turn]; while true { break outer; } } name = join(list[0], "more"); }`

// span is a piece of memory.
type span struct {
	what        string
	first, last uintptr
}

func listSpan[T any](what string, list []T) span {
	first := uintptr(unsafe.Pointer(unsafe.SliceData(list)))
	return span{what, first, first + uintptr(cap(list))*unsafe.Sizeof(*new(T))}
}

func textSpan(what, text string) span {
	first := uintptr(unsafe.Pointer(unsafe.StringData(text)))
	return span{what, first, first + uintptr(len(text))}
}

func apart(t *testing.T, a, b []span) {
	t.Helper()
	for _, one := range a {
		for _, other := range b {
			if one.first < other.last && other.first < one.last {
				t.Fatalf("the %s shares memory with the %s", one.what, other.what)
			}
		}
	}
}

func treeSpans(p api.Tree) []span {
	spans := []span{listSpan("nodes", p.Nodes)}
	for _, node := range p.Nodes {
		spans = append(spans, textSpan("node's name", node.Name), textSpan("node's label", node.Label), textSpan("node's type", node.Type), textSpan("node's text", node.Text))
	}
	return spans
}

func rowSpans(rows []api.Hook) []span {
	spans := []span{listSpan("rows", rows)}
	for _, row := range rows {
		spans = append(spans, textSpan("row's name", row.Name))
	}
	return spans
}

func programSpans(p api.Program) []span {
	spans := append(treeSpans(p.Tree), textSpan("source", p.Text), listSpan("functions", p.Scoped.Funcs), listSpan("types", p.Types))
	for _, f := range p.Scoped.Funcs {
		spans = append(spans, textSpan("function's name", f.Name), listSpan("variables", f.Vars))
		for _, v := range f.Vars {
			spans = append(spans, textSpan("variable's name", v.Name), textSpan("variable's type", v.Type))
		}
	}
	return spans
}

// P12.7: answers are new memory: they share none with what was handed in, and none with one another.
func TestNewMemory(t *testing.T) {
	p := front(t, rich)
	given := programSpans(p)
	var answers [][]span
	var kept []any // so that no memory is given out twice
	for range 2 {
		x, rows, _ := Instrument(p)
		y, _ := Erase(x)
		z, _ := Erase(p.Tree)
		if len(y.Nodes) != len(p.Tree.Nodes) || len(z.Nodes) != len(p.Tree.Nodes) {
			t.Fatal("something is missing")
		}
		answers = append(answers, treeSpans(x), rowSpans(rows), treeSpans(y), treeSpans(z))
		kept = append(kept, x, rows, y, z)
	}
	for i, answer := range answers {
		apart(t, answer, given)
		for _, other := range answers[i+1:] {
			apart(t, answer, other)
		}
		for n := range answer {
			apart(t, answer[n:n+1], answer[n+1:])
		}
	}
	runtime.KeepAlive(kept)
	runtime.KeepAlive(p)
}

// P12.7: what is handed in is not changed, spare room included.
func TestUnchanged(t *testing.T) {
	p := front(t, rich)
	x, _, _ := Instrument(p)
	for _, list := range []*[]api.Node{&p.Tree.Nodes, &x.Nodes} {
		*list = append(slices.Clip(*list), api.Node{Name: "spare"}, api.Node{Kind: 99})[:len(*list)]
	}
	p.Types = append(p.Types, "spare")[:len(p.Types)]
	whole := func() []any {
		types := p.Types[:len(p.Types)+1]
		return []any{slices.Clone(p.Tree.Nodes[:len(p.Tree.Nodes)+2]), slices.Clone(x.Nodes[:len(x.Nodes)+2]), slices.Clone(types), slices.Clone(p.Scoped.Slots), slices.Clone(p.Scoped.Calls), slices.Clone(p.Scoped.Targets), slices.Clone(p.Scoped.Owners), slices.Clone(p.Scoped.Funcs)}
	}
	before := whole()
	_, rows, errno := Instrument(p)
	_, first := Erase(x)
	_, second := Erase(p.Tree)
	if errno != api.OK || first != api.OK || second != api.OK || Count(x) != len(rows) {
		t.Fatal(errno, first, second)
	}
	if !reflect.DeepEqual(before, whole()) {
		t.Errorf("what was handed in is changed")
	}
}

// What becomes of an answer, or of what was handed in, is nothing to the next answer.
func TestAgain(t *testing.T) {
	p := front(t, rich)
	x, rows, _ := Instrument(p)
	nodes, table := slices.Clone(x.Nodes), slices.Clone(rows)
	clear(x.Nodes[:cap(x.Nodes)])
	clear(rows[:cap(rows)])
	again, others, errno := Instrument(p)
	if errno != api.OK || !slices.Equal(again.Nodes, nodes) || !slices.Equal(others, table) {
		t.Errorf("another answer: %d", errno)
	}
	clear(p.Tree.Nodes)
	if !slices.Equal(again.Nodes, nodes) || !slices.Equal(others, table) {
		t.Errorf("the answer has changed")
	}
}
