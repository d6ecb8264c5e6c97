package cells

import (
	"bytes"
	"encoding/binary"
	"math"
	"math/big"
	"math/rand"
	"strings"

	"retrace/api"
)

// This file says the chapter's words a second time, by other means: a heap is the story of what was made and put.

func i(n int64) api.Value { return api.Value{Kind: api.ValInt, Int: n} }

func b(n int64) api.Value { return api.Value{Kind: api.ValBool, Int: n} }

func s(text string) api.Value { return api.Value{Kind: api.ValText, Text: text} }

func r(n int64) api.Value { return api.Value{Kind: api.ValRef, Int: n} }

// answer is what a call that can trap gives.
type answer struct {
	value api.Value
	trap  api.Trap
}

func trapped(trap api.Trap) answer { return answer{trap: trap} }

type making struct {
	kind   api.ValueKind
	length int64
}

type putting struct {
	number, place int64
	value         api.Value
}

type story struct {
	limit int64
	made  []making
	put   []putting
}

func begun(limit int) *story {
	switch {
	case limit < 0:
		return &story{limit: 0}
	case limit > 100000:
		return &story{limit: 100000}
	}
	return &story{limit: int64(limit)}
}

func (t *story) used() int64 {
	cells := int64(len(t.made))
	for _, m := range t.made {
		cells += m.length
	}
	return cells
}

func (t *story) make(kind api.ValueKind, n int64) answer {
	cells := new(big.Int).Add(big.NewInt(t.used()), big.NewInt(n))
	cells.Add(cells, big.NewInt(1))
	switch {
	case kind != 1 && kind != 2 && kind != 3 && kind != 4:
		return trapped(api.TrapStuck)
	case n < 0:
		return trapped(api.TrapIndex)
	case cells.Cmp(big.NewInt(t.limit)) > 0:
		return trapped(api.TrapHeap)
	}
	t.made = append(t.made, making{kind, n})
	return answer{value: r(int64(len(t.made)))}
}

// isReference tells whether a value is one of the references that there are.
func (t *story) isReference(v api.Value) bool {
	for number := 0; number <= len(t.made); number++ {
		if v == r(int64(number)) {
			return true
		}
	}
	return false
}

func (t *story) kind(number int64) api.ValueKind { return t.made[number-1].kind }

func (t *story) length(number int64) int64 {
	if number == 0 {
		return 0
	}
	return t.made[number-1].length
}

func (t *story) mayBe(kind api.ValueKind, v api.Value) bool {
	switch kind {
	case api.ValInt:
		return v == i(v.Int)
	case api.ValBool:
		return v == b(0) || v == b(1)
	case api.ValText:
		return v == s(v.Text) && len(v.Text) < 257
	}
	return t.isReference(v)
}

// element is what was put there last, or the zero.
func (t *story) element(number, place int64) api.Value {
	for n := len(t.put) - 1; n >= 0; n-- {
		if p := t.put[n]; p.number == number && p.place == place {
			return p.value
		}
	}
	return map[api.ValueKind]api.Value{1: i(0), 2: b(0), 3: s(""), 4: r(0)}[t.kind(number)]
}

func (t *story) place(ref api.Value, place int64) api.Trap {
	switch {
	case !t.isReference(ref):
		return api.TrapStuck
	case place < 0 || place >= t.length(ref.Int):
		return api.TrapIndex
	}
	return api.NoTrap
}

func (t *story) get(ref api.Value, place int64) answer {
	if trap := t.place(ref, place); trap != api.NoTrap {
		return trapped(trap)
	}
	return answer{value: t.element(ref.Int, place)}
}

func (t *story) set(ref api.Value, place int64, v api.Value) api.Trap {
	if trap := t.place(ref, place); trap != api.NoTrap {
		return trap
	}
	if !t.mayBe(t.kind(ref.Int), v) {
		return api.TrapStuck
	}
	t.put = append(t.put, putting{ref.Int, place, v})
	return api.NoTrap
}

func (t *story) len(ref api.Value) (int64, api.Trap) {
	if !t.isReference(ref) {
		return 0, api.TrapStuck
	}
	return t.length(ref.Int), api.NoTrap
}

func (t *story) arrays() [][]api.Value {
	lists := make([][]api.Value, len(t.made)+1)
	for n, m := range t.made {
		for place := range m.length {
			lists[n+1] = append(lists[n+1], t.element(int64(n+1), place))
		}
	}
	return lists
}

func (t *story) save() string {
	var out bytes.Buffer
	write := func(datum any) { binary.Write(&out, binary.BigEndian, datum) }
	write(uint8(0x48))
	write(uint64(len(t.made)))
	for n, list := range t.arrays()[1:] {
		write(uint8(t.made[n].kind))
		write(uint64(len(list)))
		for _, v := range list {
			switch v.Kind {
			case api.ValBool:
				write(v.Int == 1)
			case api.ValText:
				write(uint16(len(v.Text)))
				write([]byte(v.Text))
			default:
				write(v.Int)
			}
		}
	}
	return out.String()
}

func (t *story) clone() *story {
	return &story{t.limit, append([]making(nil), t.made...), append([]putting(nil), t.put...)}
}

// loaded reads a story out of bytes; there is none if they are not those of one with that limit.
func loaded(limit int, text string) (*story, bool) {
	t, in := begun(limit), strings.NewReader(text)
	read := func(datum any) bool { return binary.Read(in, binary.BigEndian, datum) == nil }
	var mark, kind uint8
	var count, length uint64
	if !read(&mark) || !read(&count) || mark != 'H' {
		return nil, false
	}
	var put []putting
	for number := uint64(1); number <= count; number++ {
		if !read(&kind) || !read(&length) || length > uint64(t.limit) || t.make(api.ValueKind(kind), int64(length)).trap != api.NoTrap {
			return nil, false
		}
		for place := range length {
			v, ok := element(read, api.ValueKind(kind))
			if !ok {
				return nil, false
			}
			put = append(put, putting{int64(number), int64(place), v})
		}
	}
	// References may go to arrays that come later, so that all have to be there first.
	for _, p := range put {
		if t.set(r(p.number), p.place, p.value) != api.NoTrap {
			return nil, false
		}
	}
	return t, in.Len() == 0
}

func element(read func(any) bool, kind api.ValueKind) (api.Value, bool) {
	switch kind {
	case api.ValBool:
		var one uint8
		ok := read(&one)
		return b(int64(one)), ok
	case api.ValText:
		var length uint16
		if !read(&length) {
			return api.Value{}, false
		}
		text := make([]byte, length)
		ok := length == 0 || read(text)
		return s(string(text)), ok
	}
	var n int64
	ok := read(&n)
	return api.Value{Kind: kind, Int: n}, ok
}

// edges are ints at which something changes.
func edges() []int64 {
	ints := []int64{math.MinInt64, math.MinInt64 + 1, math.MaxInt64, math.MaxInt64 - 1}
	for _, n := range []int64{0, 256, 1 << 16, 100000, 1 << 31, 1 << 32} {
		ints = append(ints, n-1, n, n+1, -n-1)
	}
	return ints
}

// anything is values of all kinds and of none, such as may be and such as may not.
func anything() []api.Value {
	var values []api.Value
	for _, kind := range []api.ValueKind{math.MinInt64, -1, 0, 1, 2, 3, 4, 5, 257, math.MaxInt64} {
		for _, n := range append(edges(), 2, 3, 4, 5) {
			values = append(values, api.Value{Kind: kind, Int: n})
		}
		for _, text := range []string{"a", "\x00", "some text", strings.Repeat("y", 256), strings.Repeat("z", 257), strings.Repeat("q", 70000)} {
			values = append(values, api.Value{Kind: kind, Text: text}, api.Value{Kind: kind, Int: 1, Text: text})
		}
	}
	return values
}

// someValue is mostly what may be an element of some array of a heap with so many.
func someValue(random *rand.Rand, arrays int) api.Value {
	switch random.Intn(9) {
	case 0, 1:
		return i(edges()[random.Intn(len(edges()))])
	case 2, 3:
		return b(random.Int63n(2))
	case 4, 5:
		return s(strings.Repeat(string(rune('a'+random.Intn(26))), random.Intn(4)*random.Intn(4)))
	case 6, 7:
		return r(random.Int63n(int64(arrays + 1)))
	}
	return anything()[random.Intn(len(anything()))]
}
