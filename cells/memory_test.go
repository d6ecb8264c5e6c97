package cells

import (
	"runtime"
	"slices"
	"strings"
	"testing"
	"unsafe"

	"retrace/api"
)

// span is a piece of memory.
type span struct {
	what        string
	first, last uintptr
}

func (a span) meets(b span) bool {
	return a.first < b.last && b.first < a.last
}

func listSpan[T any](what string, list []T) span {
	first := uintptr(unsafe.Pointer(unsafe.SliceData(list)))
	return span{what, first, first + uintptr(cap(list))*unsafe.Sizeof(*new(T))}
}

func textSpans(what string, list []api.Value) []span {
	var spans []span
	for _, v := range list {
		first := uintptr(unsafe.Pointer(unsafe.StringData(v.Text)))
		spans = append(spans, span{what, first, first + uintptr(len(v.Text))})
	}
	return spans
}

// heapSpans is all memory of a heap.
func heapSpans(h *Heap) []span {
	spans := []span{listSpan("list of arrays", h.arrays), listSpan("room", h.room)}
	for _, a := range h.arrays {
		spans = append(spans, listSpan("array", a.elements))
		spans = append(spans, textSpans("element's text", a.elements)...)
	}
	return spans
}

func answerSpans(lists [][]api.Value) []span {
	spans := []span{listSpan("list of lists", lists)}
	for _, list := range lists {
		spans = append(spans, listSpan("list", list))
		spans = append(spans, textSpans("told text", list)...)
	}
	return spans
}

func apart(t *testing.T, a, b []span) {
	t.Helper()
	for _, one := range a {
		for _, other := range b {
			if one.meets(other) {
				t.Fatalf("the %s shares memory with the %s", one.what, other.what)
			}
		}
	}
}

// allApart wants all of the spans to be memory of their own.
func allApart(t *testing.T, spans []span) {
	t.Helper()
	for n := range spans {
		apart(t, spans[n:n+1], spans[n+1:])
	}
}

// manyArrays is a heap with arrays that share blocks, and such as have one of their own.
func manyArrays(t *testing.T) *Heap {
	h := New(6000)
	for _, n := range []int64{3, 0, 200, 50, 40, 300, 1, 256, 2, 0, 255, 257, 1, 0} {
		for kind := api.ValInt; kind <= api.ValRef; kind++ {
			ref, trap := h.Make(kind, n)
			if trap != api.NoTrap {
				t.Fatal(trap)
			}
			if kind == api.ValText && n > 0 {
				h.Put(ref, 0, s(strings.Repeat("first", 3)))
				h.Put(ref, n-1, s("last"))
			}
		}
	}
	return h
}

// Chapter 10, Ways: arrays are cut off so that none can grow into the next one.
func TestPieces(t *testing.T) {
	saved := manyArrays(t).Save()
	back, _ := Load(6000, saved)
	for _, h := range []*Heap{manyArrays(t), manyArrays(t).Clone(), back} {
		allApart(t, heapSpans(h))
		for n, a := range h.arrays {
			if cap(a.elements) != len(a.elements) {
				t.Fatalf("the array %d can grow by %d", n+1, cap(a.elements)-len(a.elements))
			}
			_ = append(a.elements, i(99))
		}
		if h.Save() != saved {
			t.Fatal("an array grew into another one")
		}
	}
}

// Small arrays are pieces of one block.
func TestBlocks(t *testing.T) {
	h := New(1000)
	for range 10 {
		h.Make(api.ValInt, 5)
	}
	for n := range 9 {
		if listSpan("", h.arrays[n].elements).last != listSpan("", h.arrays[n+1].elements).first {
			t.Fatalf("the arrays %d and %d are not one behind the other", n+1, n+2)
		}
	}
}

// P10.1, P10.8: no two heaps share anything.
func TestHeapsApart(t *testing.T) {
	saved := string([]byte(manyArrays(t).Save()))
	h, _ := Load(6000, saved)
	again, _ := Load(6000, saved)
	clone := h.Clone()
	heaps := []*Heap{h, again, clone, clone.Clone(), manyArrays(t)}
	for n, one := range heaps {
		for _, other := range heaps[n+1:] {
			apart(t, heapSpans(one), heapSpans(other))
		}
		apart(t, heapSpans(one), textSpans("bytes", []api.Value{s(saved)}))
	}
	runtime.KeepAlive(heaps) // else the memory of one could be handed out again for another
}

// P10.5: the lists of Arrays are new memory each time, and apart from one another.
func TestArraysApart(t *testing.T) {
	h := manyArrays(t)
	one, other := h.Arrays(), h.Arrays()
	allApart(t, answerSpans(one))
	apart(t, answerSpans(one), answerSpans(other))
	apart(t, answerSpans(one), heapSpans(h))
	saved := h.Save()
	for n, list := range one {
		list = list[:cap(list)]
		for place := range list {
			list[place] = r(77)
		}
		one[n] = nil
	}
	if h.Save() != saved || !sameLists(h.Arrays(), other) {
		t.Fatal("what Arrays told is what the heap keeps")
	}
}

// P10.3, P10.4: a text is kept, and told, by its content.
func TestTextsApart(t *testing.T) {
	given := []byte("a text that is given")
	h := New(10)
	h.Make(api.ValText, 2)
	h.Put(r(1), 0, s(unsafe.String(&given[0], len(given))))
	one, _ := h.Get(r(1), 0)
	other, _ := h.Get(r(1), 0)
	h.Put(r(1), 1, one)
	allApart(t, append(textSpans("told text", []api.Value{one, other}), heapSpans(h)...))
	copy(given, "changed, and then more")
	gets(t, h, r(1), 0, answer{value: s("a text that is given")})
	gets(t, h, r(1), 1, answer{value: s("a text that is given")})
	runtime.KeepAlive([]api.Value{one, other})
}

// P10.7: the bytes of which a heap is loaded are kept by their content.
func TestBytesApart(t *testing.T) {
	saved := manyArrays(t).Save()
	given := []byte(saved)
	h, errno := Load(6000, unsafe.String(&given[0], len(given)))
	clear(given)
	if errno != api.OK || h.Save() != saved {
		t.Fatal("the heap changes with the bytes of which it was loaded")
	}
	one, other := h.Save(), h.Save()
	allApart(t, append(textSpans("bytes", []api.Value{s(one), s(other)}), heapSpans(h)...))
	runtime.KeepAlive([]string{one, other})
	runtime.KeepAlive(h)
}

// P10.2, P10.9: the greatest limit: one array of all cells, arrays of one cell each, and one array more of none.
func TestGreatestHeap(t *testing.T) {
	one := New(api.MaxCells)
	if ref, trap := one.Make(api.ValRef, api.MaxCells); ref != (api.Value{}) || trap != api.TrapHeap {
		t.Fatalf("an array of %d elements: %v, %d", api.MaxCells, ref, trap)
	}
	one.Make(api.ValRef, api.MaxCells-1)
	one.Put(r(1), api.MaxCells-2, r(1))
	many := New(api.MaxCells)
	for n := range int64(api.MaxCells) {
		if ref, trap := many.Make(api.ValueKind(1+n%4), 0); ref != r(n+1) || trap != api.NoTrap {
			t.Fatalf("the array %d: %v, %d", n+1, ref, trap)
		}
	}
	for _, h := range []*Heap{one, many} {
		back, errno := Load(api.MaxCells, h.Save())
		if errno != api.OK {
			t.Fatal(errno)
		}
		if none, errno := Load(api.MaxCells-1, h.Save()); none != nil || errno != api.ErrSave {
			t.Fatalf("one cell less: %v, %d", none, errno)
		}
		for _, h := range []*Heap{h, back, h.Clone()} {
			if _, trap := h.Make(api.ValInt, 0); trap != api.TrapHeap || h.Used() != api.MaxCells {
				t.Fatalf("%d cells, and one array more: %d", h.Used(), trap)
			}
			if !sameLists(h.Arrays(), back.Arrays()) {
				t.Fatal("arrays differ")
			}
		}
	}
	gets(t, one, r(1), api.MaxCells-2, answer{value: r(1)})
	gets(t, one, r(1), api.MaxCells-3, answer{value: r(0)})
	gets(t, many, r(api.MaxCells), 0, trapped(api.TrapIndex))
	gets(t, many, r(api.MaxCells+1), 0, trapped(api.TrapStuck))
}

// P10.6, P10.7: as many of the longest texts as there can be.
func TestLongestTexts(t *testing.T) {
	cells := int64(api.MaxCells)
	if testing.Short() {
		cells /= 100
	}
	h := New(int(cells))
	ref, _ := h.Make(api.ValText, cells-1)
	longest := strings.Repeat("0123456789abcdef", 16)
	for place := range cells - 1 {
		if trap := h.Put(ref, place, s(longest)); trap != api.NoTrap {
			t.Fatal(trap)
		}
	}
	saved := h.Save()
	back, errno := Load(int(cells), saved)
	if errno != api.OK || len(saved) != 18+258*int(cells-1) || !sameLists(back.Arrays(), h.Clone().Arrays()) {
		t.Fatalf("%d bytes: %d", len(saved), errno)
	}
	list := h.Arrays()[1]
	if slices.ContainsFunc(list, func(v api.Value) bool { return v != s(longest) }) {
		t.Fatal("a text is changed")
	}
}

// P10.10: what is handed in is not changed, spare room included: a heap takes no lists, so that texts alone count.
func TestGivenTextsStay(t *testing.T) {
	given := []byte("some given text, and what is behind it")
	kept := slices.Clone(given)
	h := New(10)
	h.Make(api.ValText, 1)
	h.Put(r(1), 0, s(unsafe.String(&given[0], 9)))
	Load(10, unsafe.String(&given[0], len(given)))
	if !slices.Equal(given, kept) {
		t.Fatalf("%q", given)
	}
}
