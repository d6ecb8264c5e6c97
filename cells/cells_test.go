package cells

import (
	"math"
	"math/rand"
	"slices"
	"strings"
	"testing"

	"retrace/api"
	"retrace/value"
)

// pair is a heap and its story.
type pair struct {
	heap  *Heap
	story *story
}

func newPair(limit int) pair { return pair{New(limit), begun(limit)} }

func (p pair) makes(t *testing.T, kind api.ValueKind, n int64) {
	t.Helper()
	v, trap := p.heap.Make(kind, n)
	if got, want := (answer{v, trap}), p.story.make(kind, n); got != want {
		t.Fatalf("Make(%d, %d) = %v, want %v", kind, n, got, want)
	}
}

func (p pair) gets(t *testing.T, ref api.Value, place int64) {
	t.Helper()
	v, trap := p.heap.Get(ref, place)
	if got, want := (answer{v, trap}), p.story.get(ref, place); got != want {
		t.Fatalf("Get(%v, %d) = %v, want %v", ref, place, got, want)
	}
}

func (p pair) puts(t *testing.T, ref api.Value, place int64, v api.Value) {
	t.Helper()
	if got, want := p.heap.Put(ref, place, v), p.story.set(ref, place, v); got != want {
		t.Fatalf("Put(%v, %d, %v) = %d, want %d", ref, place, v, got, want)
	}
}

func (p pair) tellsLen(t *testing.T, ref api.Value) {
	t.Helper()
	got, trap := p.heap.Len(ref)
	if want, wanted := p.story.len(ref); got != want || trap != wanted {
		t.Fatalf("Len(%v) = %d, %d, want %d, %d", ref, got, trap, want, wanted)
	}
}

func (p pair) clone() pair { return pair{p.heap.Clone(), p.story.clone()} }

// loads gives the heap that is loaded of the bytes of this one, with another limit, if it may be.
func (p pair) loads(t *testing.T, limit int) (pair, bool) {
	t.Helper()
	return load(t, limit, p.heap.Save())
}

func load(t *testing.T, limit int, text string) (pair, bool) {
	t.Helper()
	h, errno := Load(limit, text)
	want, ok := loaded(limit, text)
	switch {
	case ok && (h == nil || errno != api.OK):
		t.Fatalf("Load(%d, %x) = %v, %d, want a heap", limit, text, h, errno)
	case !ok && (h != nil || errno != api.ErrSave):
		t.Fatalf("Load(%d, %x) = %v, %d, want ErrSave", limit, text, h, errno)
	}
	return pair{h, want}, ok
}

func sameLists(a, b [][]api.Value) bool {
	return slices.EqualFunc(a, b, slices.Equal)
}

// isTold asks a heap all that its story tells, twice: asking changes nothing.
func (p pair) isTold(t *testing.T) {
	t.Helper()
	for range 2 {
		if got, want := p.heap.Used(), p.story.used(); int64(got) != want {
			t.Fatalf("Used = %d, want %d", got, want)
		}
		if got, want := p.heap.Arrays(), p.story.arrays(); !sameLists(got, want) {
			t.Fatalf("Arrays = %v, want %v", got, want)
		}
		if got, want := p.heap.Save(), p.story.save(); got != want {
			t.Fatalf("Save = %x, want %x", got, want)
		}
		for number := int64(-1); number <= int64(len(p.story.made))+1; number++ {
			p.tellsLen(t, r(number))
			p.gets(t, r(number), 0)
			p.gets(t, r(number), -1)
			if number > 0 && number <= int64(len(p.story.made)) {
				p.gets(t, r(number), p.story.length(number)-1)
				p.gets(t, r(number), p.story.length(number))
			}
		}
	}
}

// someHeap is a heap with arrays of all kinds, elements of all sizes, and references both ways.
func someHeap(t *testing.T, limit int) pair {
	p := newPair(limit)
	p.makes(t, api.ValInt, 3)
	p.makes(t, api.ValBool, 3)
	p.makes(t, api.ValText, 4)
	p.makes(t, api.ValRef, 5)
	p.makes(t, api.ValText, 0)
	p.puts(t, r(1), 0, i(math.MinInt64))
	p.puts(t, r(1), 1, i(0x0102030405060708))
	p.puts(t, r(1), 2, i(-2))
	p.puts(t, r(2), 1, b(1))
	p.puts(t, r(3), 0, s("a\x00\xff"))
	p.puts(t, r(3), 2, s(strings.Repeat("0123456789abcdef", 16)))
	p.puts(t, r(3), 3, s(strings.Repeat("z", 255)))
	p.puts(t, r(4), 0, r(5))
	p.puts(t, r(4), 1, r(4))
	p.puts(t, r(4), 3, r(1))
	return p
}

func TestExamples(t *testing.T) {
	h := New(10)
	for n, c := range []struct {
		kind   api.ValueKind
		length int64
		want   answer
	}{
		{api.ValInt, 3, answer{value: r(1)}},
		{api.ValText, 0, answer{value: r(2)}},
		{api.ValInt, 5, trapped(api.TrapHeap)},
		{api.ValInt, -1, trapped(api.TrapIndex)},
		{api.ValNone, 0, trapped(api.TrapStuck)},
		{api.ValRef, 4, answer{value: r(3)}},
	} {
		if n == 2 && h.Used() != 5 {
			t.Errorf("Used = %d", h.Used())
		}
		if v, trap := h.Make(c.kind, c.length); v != c.want.value || trap != c.want.trap {
			t.Errorf("Make(%d, %d) = %v, %d", c.kind, c.length, v, trap)
		}
	}
	gets(t, h, r(1), 2, answer{value: i(0)})
	gets(t, h, r(1), 3, trapped(api.TrapIndex))
	gets(t, h, r(1), -1, trapped(api.TrapIndex))
	gets(t, h, r(0), 0, trapped(api.TrapIndex))
	gets(t, h, r(4), 0, trapped(api.TrapStuck))
	for _, c := range []struct {
		ref   api.Value
		place int64
		v     api.Value
		want  api.Trap
	}{{r(1), 0, i(7), 0}, {r(1), 0, b(1), api.TrapStuck}, {r(1), 9, b(1), api.TrapIndex}, {r(3), 0, r(3), 0}, {r(3), 1, r(4), api.TrapStuck}} {
		if trap := h.Put(c.ref, c.place, c.v); trap != c.want {
			t.Errorf("Put(%v, %d, %v) = %d", c.ref, c.place, c.v, trap)
		}
	}
	gets(t, h, r(1), 0, answer{value: i(7)})
	gets(t, h, r(3), 0, answer{value: r(3)})
	gets(t, h, r(3), 1, answer{value: r(0)})
	for _, c := range []struct {
		ref  api.Value
		want int64
		trap api.Trap
	}{{r(0), 0, 0}, {r(3), 4, 0}, {i(5), 0, api.TrapStuck}} {
		if n, trap := h.Len(c.ref); n != c.want || trap != c.trap {
			t.Errorf("Len(%v) = %d, %d", c.ref, n, trap)
		}
	}
	if got := h.Arrays(); !sameLists(got, [][]api.Value{{}, {i(7), i(0), i(0)}, {}, {r(3), r(0), r(0), r(0)}}) {
		t.Errorf("Arrays = %v", got)
	}
}

func gets(t *testing.T, h *Heap, ref api.Value, place int64, want answer) {
	t.Helper()
	if v, trap := h.Get(ref, place); v != want.value || trap != want.trap {
		t.Errorf("Get(%v, %d) = %v, %d", ref, place, v, trap)
	}
}

func TestExamplesOfBytes(t *testing.T) {
	zeros := "\x00\x00\x00\x00\x00\x00\x00"
	if got := New(5).Save(); got != "\x48\x00"+zeros {
		t.Errorf("Save of a new heap = %x", got)
	}
	h := New(9)
	h.Make(api.ValBool, 2)
	h.Put(r(1), 1, b(1))
	saved := "\x48" + zeros + "\x01" + "\x02" + zeros + "\x02" + "\x00\x01"
	if got := h.Save(); got != saved {
		t.Errorf("Save = %x", got)
	}
	if h, errno := Load(3, saved); h == nil || errno != api.OK || h.Save() != saved {
		t.Errorf("Load(3, that) = %v, %d", h, errno)
	}
	for _, c := range []struct {
		limit int
		text  string
	}{{2, saved}, {3, saved + "\x00"}, {3, saved + "\x01"}, {3, ""}} {
		if h, errno := Load(c.limit, c.text); h != nil || errno != api.ErrSave {
			t.Errorf("Load(%d, %x) = %v, %d", c.limit, c.text, h, errno)
		}
	}
}

// P10.1: a new heap has the array 0 alone, whatever its limit.
func TestNew(t *testing.T) {
	for _, limit := range []int{math.MinInt64, -1, 0, 1, 2, 99999, 100000, 100001, math.MaxInt64} {
		p := newPair(limit)
		p.isTold(t)
		if p.heap.Used() != 0 || len(p.heap.Arrays()) != 1 || len(p.heap.Arrays()[0]) != 0 {
			t.Fatalf("New(%d) has %v", limit, p.heap.Arrays())
		}
		left := p.story.limit - 1
		p.makes(t, api.ValText, left+1)
		p.makes(t, api.ValText, left)
		p.makes(t, api.ValText, 0)
		if int64(p.heap.Used()) != p.story.limit {
			t.Fatalf("New(%d): %d cells are taken", limit, p.heap.Used())
		}
	}
}

// P10.2: kinds, lengths and the room that is left, in this order; with a trap nothing changes.
func TestMake(t *testing.T) {
	for limit := range 12 {
		for kind := api.ValueKind(-2); kind <= 7; kind++ {
			p := newPair(limit)
			for _, n := range append(edges(), 2, 3, 4, 5, 6, 7, 8) {
				p.makes(t, kind, n)
				p.isTold(t)
			}
		}
	}
	p := newPair(10)
	for _, kind := range []api.ValueKind{math.MinInt64, math.MaxInt64, 256, 257, 258, 260, 1 << 32, 1<<32 + 1, -4} {
		for _, n := range []int64{-1, 0, 1, 100} {
			p.makes(t, kind, n)
		}
	}
	p.isTold(t)
}

// P10.2: the order of the traps, told one by one.
func TestMakeOrder(t *testing.T) {
	h := New(0)
	for _, c := range []struct {
		kind api.ValueKind
		n    int64
		want api.Trap
	}{
		{0, -1, api.TrapStuck}, {5, -1, api.TrapStuck}, {0, 1, api.TrapStuck}, {0, 0, api.TrapStuck},
		{1, -1, api.TrapIndex}, {4, math.MinInt64, api.TrapIndex}, {2, 0, api.TrapHeap}, {3, math.MaxInt64, api.TrapHeap},
	} {
		if v, trap := h.Make(c.kind, c.n); v != (api.Value{}) || trap != c.want {
			t.Errorf("Make(%d, %d) = %v, %d, want %d", c.kind, c.n, v, trap, c.want)
		}
	}
}

// P10.2: each element is the kind's zero, as package value has it.
func TestZeros(t *testing.T) {
	for kind := api.ValInt; kind <= api.ValRef; kind++ {
		h := New(1000)
		for _, n := range []int64{1, 300, 2, 5} {
			ref, _ := h.Make(kind, n)
			for place := range n {
				gets(t, h, ref, place, answer{value: value.Zero(kind)})
			}
		}
	}
}

// P10.3, P10.4, P10.5: any value as reference, with any place, and any value to be put there.
func TestAnything(t *testing.T) {
	for _, limit := range []int{0, 20, 30} {
		p := newPair(limit)
		if limit > 0 {
			p = someHeap(t, limit)
		}
		for _, ref := range anything() {
			p.tellsLen(t, ref)
			for _, place := range edges() {
				p.gets(t, ref, place)
				for _, v := range []api.Value{i(1), b(1), s("x"), r(1), {}} {
					if place != 0 || ref.Kind != api.ValRef || ref.Int > 4 {
						p.puts(t, ref, place, v)
					}
				}
			}
		}
		p.isTold(t)
	}
}

// P10.4: what may be an element, by the array's kind.
func TestPutAnything(t *testing.T) {
	p := someHeap(t, 1000)
	for number := int64(-1); number <= 7; number++ {
		for _, v := range anything() {
			for _, place := range []int64{-1, 0, 2, 3, 4, 5} {
				p.puts(t, r(number), place, v)
				p.gets(t, r(number), place)
			}
		}
	}
	p.isTold(t)
	p.makes(t, api.ValRef, 1)
	p.makes(t, api.ValRef, 1)
	for number := int64(-2); number < 12; number++ {
		p.puts(t, r(6), 0, r(number))
		p.puts(t, r(7), 0, r(number))
		p.isTold(t)
	}
}

// P10.4: a reference that may not be is told ahead of a place, and a place ahead of the value.
func TestPutOrder(t *testing.T) {
	h := someHeap(t, 100).heap
	for _, c := range []struct {
		ref   api.Value
		place int64
		v     api.Value
		want  api.Trap
	}{
		{r(9), -1, b(1), api.TrapStuck}, {r(9), 0, i(1), api.TrapStuck}, {r(6), 9, i(1), api.TrapStuck}, {i(1), 0, i(1), api.TrapStuck}, {i(1), 9, i(1), api.TrapStuck},
		{r(0), 0, api.Value{}, api.TrapIndex}, {r(0), -1, r(99), api.TrapIndex}, {r(5), 0, s(""), api.TrapIndex},
		{r(1), 3, b(1), api.TrapIndex}, {r(1), -1, b(1), api.TrapIndex}, {r(1), 2, b(1), api.TrapStuck}, {r(1), 2, api.Value{}, api.TrapStuck},
		{r(4), 4, r(6), api.TrapStuck}, {r(4), 5, r(6), api.TrapIndex}, {r(4), 4, r(5), api.NoTrap}, {r(4), 4, r(0), api.NoTrap},
	} {
		before := h.Save()
		if trap := h.Put(c.ref, c.place, c.v); trap != c.want {
			t.Errorf("Put(%v, %d, %v) = %d, want %d", c.ref, c.place, c.v, trap, c.want)
		}
		if c.want != api.NoTrap && h.Save() != before {
			t.Errorf("Put(%v, %d, %v) traps, and the heap is changed", c.ref, c.place, c.v)
		}
	}
}

// P10.9: all short runs of a few calls, asked after each call all that there is.
func TestShortRuns(t *testing.T) {
	calls := []func(p pair){
		func(p pair) { p.makes(t, api.ValInt, 1) },
		func(p pair) { p.makes(t, api.ValRef, 2) },
		func(p pair) { p.makes(t, api.ValText, 0) },
		func(p pair) { p.puts(t, r(1), 0, i(5)) },
		func(p pair) { p.puts(t, r(1), 0, i(-1)) },
		func(p pair) { p.puts(t, r(1), 1, r(2)) },
		func(p pair) { p.puts(t, r(2), 0, r(2)) },
		func(p pair) { p.puts(t, r(2), 0, i(9)) },
	}
	longest := 5
	if testing.Short() {
		longest = 4
	}
	for limit := range 9 {
		shortRuns(t, newPair(limit), calls, longest)
	}
}

func shortRuns(t *testing.T, p pair, calls []func(p pair), longest int) {
	p.isTold(t)
	if longest == 0 {
		return
	}
	for _, call := range calls {
		next := p.clone()
		call(next)
		shortRuns(t, next, calls, longest-1)
	}
}

// P10.9: grown runs of several heaps, cloned and loaded on the way: each is as its own story tells.
func TestGrownRuns(t *testing.T) {
	random := rand.New(rand.NewSource(10))
	runs := 200
	if testing.Short() {
		runs = 50
	}
	for range runs {
		heaps := []pair{newPair(random.Intn(40)), newPair(random.Intn(2000))}
		for range 150 {
			heaps = oneCall(t, random, heaps)
		}
		for _, p := range heaps {
			p.isTold(t)
		}
	}
}

func oneCall(t *testing.T, random *rand.Rand, heaps []pair) []pair {
	p := heaps[random.Intn(len(heaps))]
	arrays := len(p.story.made)
	number := random.Int63n(int64(arrays) + 1)
	place := random.Int63n(p.story.length(number)+2) - 1
	switch chance := random.Intn(100); {
	case chance < 10:
		p.makes(t, api.ValueKind(1+random.Intn(4)), random.Int63n(1+random.Int63n(30)))
	case chance < 12:
		p.makes(t, api.ValueKind(random.Intn(6)), edges()[random.Intn(len(edges()))])
	case chance < 75:
		p.puts(t, r(number), place, someValue(random, arrays))
	case chance < 90:
		p.gets(t, r(number), place)
	case chance < 92:
		p.tellsLen(t, someValue(random, arrays))
	case chance < 94:
		p.isTold(t)
	case chance < 96 && len(heaps) < 6:
		return append(heaps, p.clone())
	case chance < 98 && len(heaps) < 6:
		if next, ok := p.loads(t, random.Intn(100)); ok {
			return append(heaps, next)
		}
	}
	return heaps
}

// P10.9: the cells that are taken never go down and are never above the limit; numbers are new.
func TestCellsOnlyGrow(t *testing.T) {
	random := rand.New(rand.NewSource(11))
	for limit := range 60 {
		h, used, last := New(limit), 0, int64(0)
		for range 80 {
			n := random.Int63n(8) - 1
			ref, trap := h.Make(api.ValInt, n)
			full := int64(used)+n+1 > int64(limit)
			switch {
			case n >= 0 && full != (trap == api.TrapHeap):
				t.Fatalf("%d cells of %d, %d more: trap %d", used, limit, n+1, trap)
			case trap == api.NoTrap && ref != r(last+1):
				t.Fatalf("%v behind %d", ref, last)
			case trap == api.NoTrap:
				used, last = used+int(n)+1, last+1
			}
			if h.Used() != used {
				t.Fatalf("%d cells are taken, not %d", h.Used(), used)
			}
		}
	}
}

// P10.8: what is done to one is not seen in the other, whichever is done to first.
func TestClone(t *testing.T) {
	first := someHeap(t, 30)
	second := first.clone()
	third := second.clone()
	for n, p := range []pair{second, first, third} {
		p.puts(t, r(1), 0, i(int64(n)))
		p.puts(t, r(3), 1, s(strings.Repeat("k", n+1)))
		for range 8 {
			p.makes(t, api.ValText, int64(n))
			p.puts(t, r(int64(len(p.story.made))), 0, s("new"))
			p.puts(t, r(4), 2, r(int64(len(p.story.made))))
		}
		for _, p := range []pair{first, second, third} {
			p.isTold(t)
		}
	}
}
