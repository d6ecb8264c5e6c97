package verify

import (
	"slices"
	"strconv"
	"strings"
	"testing"

	"retrace/api"
)

func repeated(instr string, count int) string { return strings.Repeat(instr+";", count) }

// P14.1: a stack as high as may be, and one more, by each instruction that gives.
func TestHeights(t *testing.T) {
	for _, word := range []string{"int 7", "read", "bool true", "text 0", "load 0", "call 1"} {
		high := func(height int) api.Code {
			return assembled(t, "main 0;pool \"\";fn main 0 - [bool];"+repeated(word, height)+"done;fn g 0 [[int]];jump "+strconv.Itoa(height+1))
		}
		for _, height := range []int{0, 1, 399, 400} {
			answers(t, high(height), api.OK, 0)
			if got, errno := High(high(height), 0); got != height || errno != api.OK {
				t.Errorf("%s: High %d, %d, want %d", word, got, errno, height)
			}
		}
		answers(t, high(401), api.ErrStack, 400)
		answers(t, high(402), api.ErrStack, 400)
	}
}

// P14.1: what takes as much as it gives, or gives nothing, can stand where the stack is as high as may be.
func TestAtTheTop(t *testing.T) {
	full := repeated("int 1", 400)
	for _, word := range []string{"nop", "un -", "pop", "tell 1", "str", "new int", "bin +", "print 16", "emit 1", "show 1 0", "store 0", "call 1", "call 2", "call 3", "call 4", "jump 401"} {
		tail := "done;fn f 0 -;done;fn g 1 bool int;jump 403;fn h 8 int int int int int int int int int;jump 404;fn i 8 - int int int int int int int int;done"
		answers(t, assembled(t, "main 0;fn main 0 - int;"+full+word+";"+tail), api.OK, 0)
	}
	answers(t, assembled(t, "main 0;fn main 0 -;"+full+"call 1;done;fn g 0 int;jump 402"), api.ErrStack, 400)
	// What is taken is asked ahead of the height.
	answers(t, assembled(t, "main 0;fn main 0 -;"+full+"call 1;done;fn g 1 int bool;jump 402"), api.ErrKind, 400)
	answers(t, assembled(t, "main 0;fn main 0 -;"+full+"text 0;done"), api.ErrSlot, 400)
	answers(t, assembled(t, "main 0;fn main 0 -;"+full+"int 1"), api.ErrStack, 400)
	// Each frame has a stack of its own.
	answers(t, assembled(t, "main 0;fn main 0 -;"+full+"call 1;done;fn g 0 -;"+full+"done"), api.OK, 0)
}

// P14.1: the last text, slot and function that may be named, and the one behind it.
func TestNamed(t *testing.T) {
	c := mainOf(t, strings.Repeat("int ", 249)+"bool", "text 3999;pop;load 249;false 4;show 1 249;load 248;store 248;call 59;done")
	c.Texts = make([]string, 4000)
	for f := 1; f < 60; f++ {
		c.Entrys = append(c.Entrys, api.Entry{Name: "f", Start: len(c.Instrs)})
		c.Instrs = append(c.Instrs, api.Instr{Op: api.InDone})
	}
	answers(t, c, api.OK, 0)
	less := c
	less.Texts = c.Texts[:3999]
	answers(t, less, api.ErrSlot, 0)
	less = c
	less.Entrys = slices.Clone(c.Entrys)
	less.Entrys[0].Sorts = c.Entrys[0].Sorts[:249]
	answers(t, less, api.ErrSlot, 2)
	less.Entrys[0].Sorts = slices.Clone(c.Entrys[0].Sorts)
	less.Entrys[0].Sorts[249] = 1
	answers(t, less, api.ErrKind, 3)
	less = c
	less.Entrys = c.Entrys[:59]
	answers(t, less, api.ErrSlot, 7)
}

// isSafe asks for a code too long for the second writing: that it is safe, and its stacks fit.
func isSafe(t *testing.T, what string, c api.Code, high int) {
	t.Helper()
	if errno, at := Check(c); errno != api.OK || at != 0 {
		t.Errorf("%s: %d, %d", what, errno, at)
	}
	stacks, errno := Stacks(c)
	if errno != api.OK || !certifies(c, stacks) {
		t.Errorf("%s: %d, or its stacks do not fit", what, errno)
	}
	if got, errno := High(c, 0); got != high || errno != api.OK {
		t.Errorf("%s: High %d, %d, want %d", what, got, errno, high)
	}
}

// refusesAt asks for the error of such a code.
func refusesAt(t *testing.T, what string, c api.Code, want api.Errno, wantAt int) {
	t.Helper()
	if errno, at := Check(c); errno != want || at != wantAt {
		t.Errorf("%s: %d, %d, want %d, %d", what, errno, at, want, wantAt)
	}
}

// mainWith is a code of main alone, with one slot of each sort.
func mainWith(instrs []api.Instr) api.Code {
	return api.Code{Instrs: instrs, Entrys: []api.Entry{slotsOfAll()}}
}

// P14.1, P14.7: codes as long as may be, gone through in the order that costs the most.
func TestLong(t *testing.T) {
	const all = 60000
	done := api.Instr{Op: api.InDone}

	forward := append(slices.Repeat([]api.Instr{{Op: api.InNop}}, all-1), done)
	isSafe(t, "one after the other", mainWith(forward), 0)
	forward[all-1] = api.Instr{Op: api.InNop}
	refusesAt(t, "one after the other, out of it", mainWith(forward), api.ErrEnd, all-1)

	// To and fro, from both ends to the middle: each jump leads to what no one but it leads to.
	fro := make([]api.Instr, all)
	for i := range all / 2 {
		fro[i] = api.Instr{Op: api.InJump, A: int64(all - 1 - i)}
		fro[all-1-i] = api.Instr{Op: api.InJump, A: int64(i + 1)}
	}
	fro[all/2] = done
	isSafe(t, "to and fro", mainWith(fro), 0)
	fro[all/2] = api.Instr{Op: api.InPop}
	refusesAt(t, "to and fro", mainWith(fro), api.ErrStack, all/2)

	// All the way back, and ahead of it as many open ones as may be.
	back := []api.Instr{{Op: api.InJump, A: all - 1}, done}
	for i := 2; i < all; i++ {
		back = append(back, api.Instr{Op: api.InJump, A: int64(i - 1)})
	}
	isSafe(t, "back", mainWith(back), 0)
	back[1] = api.Instr{Op: api.InPop}
	refusesAt(t, "back", mainWith(back), api.ErrStack, 1)

	var open []api.Instr
	for i := range all / 3 {
		open = append(open, api.Instr{Op: api.InBool}, api.Instr{Op: api.InFalse, A: int64(all - 1 - i)})
	}
	open = append(open, slices.Repeat([]api.Instr{done}, all-len(open))...)
	isSafe(t, "many open", mainWith(open), 1)
	open[all-1] = api.Instr{Op: api.InPop}
	open[all-2] = api.Instr{Op: api.InPop}
	refusesAt(t, "many open", mainWith(open), api.ErrStack, all-2)

	// The highest stack nearly everywhere, handed on and held against what is known.
	var high []api.Instr
	for range 400 {
		high = append(high, api.Instr{Op: api.InLoad, A: 1})
	}
	for len(high) < all-3 {
		high = append(high, api.Instr{Op: api.InPop}, api.Instr{Op: api.InLoad, A: 1}, api.Instr{Op: api.InTell, A: 1})
	}
	high = append(high[:all-1], api.Instr{Op: api.InJump, A: 400})
	high[all-2], high[all-3] = api.Instr{Op: api.InNop}, api.Instr{Op: api.InNop}
	isSafe(t, "high", mainWith(high), 400)
}

// P14.1: stacks that differ at one place alone, wherever it is.
func TestDiffer(t *testing.T) {
	for _, height := range []int{1, 2, 17, 400} {
		for _, at := range []int{0, height / 2, height - 1} {
			ints, other := slices.Repeat([]api.Instr{{Op: api.InLoad}}, height), slices.Repeat([]api.Instr{{Op: api.InLoad}}, height)
			other[at].A = 1
			// Two ways lay a stack each, and meet.
			instrs := append([]api.Instr{{Op: api.InBool}, {Op: api.InFalse, A: int64(3 + height)}}, ints...)
			instrs = append(instrs, api.Instr{Op: api.InJump, A: int64(3 + 2*height)})
			same := append(slices.Clone(instrs), append(ints, api.Instr{Op: api.InDone})...)
			answers(t, mainWith(same), api.OK, 0)
			differ := append(slices.Clone(instrs), append(other, api.Instr{Op: api.InDone})...)
			answers(t, mainWith(differ), api.ErrKind, 2+2*height)
			lower := append(slices.Clone(instrs), append(other[1:], api.Instr{Op: api.InDone}, api.Instr{Op: api.InDone})...)
			if height > 1 {
				lower[2+height].A = int64(2 + 2*height)
				answers(t, mainWith(lower), api.ErrStack, 1+2*height)
			}
		}
	}
}
