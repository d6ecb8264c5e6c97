package verify

import (
	"slices"
	"testing"
	"unsafe"

	"retrace/api"
)

// span is a piece of memory.
type span struct{ first, last uintptr }

func listSpan[T any](list []T) span {
	first := uintptr(unsafe.Pointer(unsafe.SliceData(list)))
	return span{first, first + uintptr(cap(list))*unsafe.Sizeof(*new(T))}
}

// spans is all memory of answers and codes.
func spans(c api.Code, answers ...[][]api.Sort) []span {
	all := []span{listSpan(c.Instrs), listSpan(c.Entrys), listSpan(c.Texts)}
	for _, e := range c.Entrys {
		all = append(all, listSpan(e.Sorts))
	}
	for _, stacks := range answers {
		all = append(all, listSpan(stacks))
		for _, stack := range stacks {
			all = append(all, listSpan(stack))
		}
	}
	return all
}

// P14.7: what is answered is new memory, spare room included, and no two lists share any.
func TestNewMemory(t *testing.T) {
	for seed := range seeds(2000) {
		c, _ := newGrower(seed).code()
		one, _ := Stacks(c)
		two, _ := Stacks(c)
		all := spans(c, one, two)
		slices.SortFunc(all, func(a, b span) int { return int(a.first) - int(b.first) })
		last := uintptr(0)
		for _, s := range all {
			if s.first == s.last {
				continue
			}
			if s.first < last {
				t.Fatalf("%s: two lists share memory", told(c))
			}
			last = s.last
		}
	}
}

// P14.7: what is done to one list of an answer is not seen in another one, or in the next answer.
func TestAnswersStandAlone(t *testing.T) {
	for seed := range seeds(1000) {
		c, fit := newGrower(seed).code()
		for range 2 {
			stacks, _ := Stacks(c)
			for at, stack := range stacks {
				if stack != nil && !slices.Equal(stack, fit[at]) {
					t.Fatalf("%s: %v at %d, want %v", told(c), stack, at, fit[at])
				}
				for i := range stack[:cap(stack)] {
					stack[:cap(stack)][i] = 99
				}
				_ = append(stack, 98)
			}
		}
	}
}

// roomy is a list with spare room that says something.
func roomy[T any](list []T, spare T) []T {
	return append(slices.Clone(list), spare)[:len(list)]
}

// copied is a code with all its lists anew, spare room told.
func copied(c api.Code) api.Code {
	c.Instrs = slices.Clone(c.Instrs[:cap(c.Instrs)])
	c.Texts = slices.Clone(c.Texts[:cap(c.Texts)])
	c.Entrys = slices.Clone(c.Entrys[:cap(c.Entrys)])
	for i, e := range c.Entrys {
		c.Entrys[i].Sorts = slices.Clone(e.Sorts[:cap(e.Sorts)])
	}
	return c
}

func same(a, b api.Code) bool {
	return a.Main == b.Main && slices.Equal(a.Instrs, b.Instrs) && slices.Equal(a.Texts, b.Texts) && slices.EqualFunc(a.Entrys, b.Entrys, func(x, y api.Entry) bool {
		return x.Name == y.Name && x.Start == y.Start && x.Params == y.Params && x.Result == y.Result && slices.Equal(x.Sorts, y.Sorts)
	})
}

// P14.7: what is handed in is not changed, spare room included, and its spare room does not count.
func TestUnchanged(t *testing.T) {
	for seed := range seeds(10000) {
		g := newGrower(seed)
		c, _ := g.code()
		if seed%2 == 0 {
			g.spoil(&c)
		}
		bare := copied(c)
		bare.Instrs, bare.Texts, bare.Entrys = slices.Clip(bare.Instrs[:len(c.Instrs)]), slices.Clip(bare.Texts[:len(c.Texts)]), slices.Clip(bare.Entrys[:len(c.Entrys)])
		c.Instrs = roomy(c.Instrs, api.Instr{Op: api.InDone})
		c.Texts = roomy(c.Texts, "spare")
		c.Entrys = roomy(c.Entrys, api.Entry{Name: "spare"})
		for i, e := range c.Entrys {
			bare.Entrys[i].Sorts = slices.Clip(slices.Clone(e.Sorts))
			c.Entrys[i].Sorts = roomy(e.Sorts, 1)
		}
		before := copied(c)
		want := holds(t, c)
		if !same(copied(c), before) {
			t.Fatalf("%s was changed", told(c))
		}
		if errno := holds(t, bare); errno != want {
			t.Fatalf("%s: %d, with spare room %d", told(c), errno, want)
		}
	}
}
