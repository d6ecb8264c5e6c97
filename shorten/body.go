package shorten

import (
	"slices"
	"strings"

	"retrace/api"
)

// body is what passes change of a code.
type body struct {
	instrs []api.Instr
	starts []int // of the functions
	room   []int // for takeOut, which is called very often
}

func bodyOf(c api.Code) *body {
	b := &body{instrs: slices.Clone(c.Instrs), room: make([]int, len(c.Instrs))}
	for _, entry := range c.Entrys {
		b.starts = append(b.starts, entry.Start)
	}
	return b
}

// in is a code with this body in the place of its own one, as memory of its own.
func (b *body) in(c api.Code) api.Code {
	changed := api.Code{Instrs: slices.Clone(b.instrs), Main: c.Main}
	for f, entry := range c.Entrys {
		entry.Name = strings.Clone(entry.Name)
		entry.Sorts = slices.Clone(entry.Sorts)
		entry.Start = b.starts[f]
		changed.Entrys = append(changed.Entrys, entry)
	}
	for _, text := range c.Texts {
		changed.Texts = append(changed.Texts, strings.Clone(text))
	}
	return changed
}

// has tells whether an instruction has that number.
func (b *body) has(number int64) bool {
	return number < int64(len(b.instrs))
}

// takeOut takes out the instructions that are gone, each asked once and in their order, and tells whether some are.
func (b *body) takeOut(gone func(at int) bool) bool {
	numbers := b.room[:len(b.instrs)] // by number: the one that it gets, or that what then stands at its place gets
	left := 0
	for at, in := range b.instrs {
		numbers[at] = left
		if !gone(at) {
			b.instrs[left] = in
			left++
		}
	}
	out := len(b.instrs) - left
	if out == 0 {
		return false
	}
	for at, in := range b.instrs[:left] {
		switch {
		case !names(in):
		case b.has(in.A):
			b.instrs[at].A = int64(numbers[in.A])
		default:
			b.instrs[at].A -= int64(out)
		}
	}
	for f, start := range b.starts {
		b.starts[f] = numbers[start]
	}
	b.instrs = b.instrs[:left]
	return true
}

// names tells whether the A of an instruction is another one's number.
func names(in api.Instr) bool {
	return in.Op == api.InJump || in.Op == api.InFalse
}
