package verify

import (
	"math"
	"slices"
	"testing"

	"retrace/api"
	"retrace/code"
)

// The chapter written out a second time: by other means, as plainly as may be.

// allSorts is every sort that may be.
var allSorts = []api.Sort{1, 2, 3, 5, 6, 7, 9, 10, 11, 13, 14, 15, 17, 18, 19}

// rule is one row of what an instruction can do: which sorts it takes, the topmost last, each one of some, and what it then gives.
type rule struct {
	takes [][]api.Sort
	gives []api.Sort
}

// just is a rule of which each sort is told.
func just(takes, gives []api.Sort) rule {
	r := rule{gives: gives}
	for _, s := range takes {
		r.takes = append(r.takes, []api.Sort{s})
	}
	return r
}

// table is the chapter's table: how many values an instruction of f takes, and all rules by which it may.
func table(c api.Code, f api.Entry, in api.Instr) (int, []rule) {
	type list = []api.Sort
	give := func(s api.Sort) (int, []rule) { return 0, []rule{just(nil, list{s})} }
	var rules []rule
	switch in.Op {
	case 0, 9, 21, 22: // nop, jump, emit, show
		return 0, []rule{{}}
	case 1, 20: // int, read
		return give(1)
	case 2: // bool
		return give(2)
	case 3: // text
		return give(3)
	case 4: // load
		return give(f.Sorts[in.A])
	case 5: // store
		return 1, []rule{just(list{f.Sorts[in.A]}, nil)}
	case 6: // pop
		return 1, []rule{{takes: [][]api.Sort{allSorts}}}
	case 7: // un
		return 1, []rule{just(list{api.Sort(in.A)}, list{api.Sort(in.A)})} // OpNeg is 1, as int; OpNot is 2, as bool
	case 8: // bin
		for _, s := range allSorts {
			switch {
			case in.A == 3 && (s == 1 || s == 3), in.A >= 4 && in.A <= 7 && s == 1:
				rules = append(rules, just(list{s, s}, list{s}))
			case in.A == 8, in.A == 9, in.A >= 10 && (s == 1 || s == 3):
				rules = append(rules, just(list{s, s}, list{2}))
			}
		}
		return 2, rules
	case 10: // false
		return 1, []rule{just(list{2}, nil)}
	case 11: // call
		called := c.Entrys[in.A]
		r := just(called.Sorts[:called.Params], list{called.Result})
		if called.Result == 0 {
			r.gives = nil
		}
		return called.Params, []rule{r}
	case 12: // ret
		if f.Result == 0 {
			return 1, nil
		}
		return 1, []rule{just(list{f.Result}, nil)}
	case 13: // done
		if f.Result != 0 {
			return 0, nil
		}
		return 0, []rule{{}}
	case 14: // new
		return 1, []rule{just(list{1}, list{api.Sort(in.A) + 4})}
	case 15: // get
		for _, s := range allSorts[3:] {
			rules = append(rules, just(list{s, 1}, list{s - 4}))
		}
		return 2, append(rules, just(list{3, 1}, list{1}))
	case 16: // put
		for _, s := range allSorts[3:] {
			rules = append(rules, just(list{s, 1, s - 4}, nil))
		}
		return 3, rules
	case 17: // len
		return 1, []rule{{takes: [][]api.Sort{allSorts[2:]}, gives: list{1}}}
	case 18: // str
		return 1, []rule{{takes: [][]api.Sort{allSorts[:3]}, gives: list{3}}}
	case 19: // print
		return int(in.A), []rule{{takes: slices.Repeat([][]api.Sort{allSorts[:3]}, int(in.A))}}
	case 23: // tell
		for _, s := range allSorts {
			rules = append(rules, just(list{s}, list{s}))
		}
		return 1, rules
	}
	panic("no instruction")
}

// there is 1. of looking at an instruction.
func there(c api.Code, f api.Entry, in api.Instr) bool {
	switch in.Op {
	case 3:
		return int(in.A) < len(c.Texts)
	case 4, 5:
		return int(in.A) < len(f.Sorts)
	case 22:
		return int(in.B) < len(f.Sorts)
	case 11:
		return int(in.A) < len(c.Entrys)
	}
	return true
}

// behind is 1. to 4. of looking at an instruction: the stack that is there then, or the error.
func behind(c api.Code, f api.Entry, in api.Instr, stack []api.Sort) ([]api.Sort, api.Errno) {
	if !there(c, f, in) {
		return nil, api.ErrSlot
	}
	count, rules := table(c, f, in)
	if len(stack) < count {
		return nil, api.ErrStack
	}
	taken, left := stack[len(stack)-count:], stack[:len(stack)-count]
	for _, r := range rules {
		fits := true
		for i, some := range r.takes {
			fits = fits && slices.Contains(some, taken[i])
		}
		if !fits {
			continue
		}
		if len(left)+len(r.gives) > 400 {
			return nil, api.ErrStack
		}
		return append(append([]api.Sort{}, left...), r.gives...), api.OK
	}
	return nil, api.ErrKind
}

// follower is an instruction that may come next, and what it is if it is in no piece.
type follower struct {
	at      int
	outside api.Errno
}

func followersOf(in api.Instr, at int) []follower {
	next, named := follower{at + 1, api.ErrEnd}, follower{int(in.A), api.ErrJump}
	switch in.Op {
	case 9:
		return []follower{named}
	case 10:
		return []follower{next, named}
	case 12, 13:
		return nil
	}
	return []follower{next}
}

// functionAt tells in which function's piece an instruction is, -1 if in none.
func functionAt(c api.Code, at int) int {
	if at < 0 || at >= len(c.Instrs) {
		return -1
	}
	f := 0
	for f+1 < len(c.Entrys) && c.Entrys[f+1].Start <= at {
		f++
	}
	return f
}

// wanted is P14.1, with all that is known of instructions in the end.
func wanted(c api.Code) (known map[int][]api.Sort, errno api.Errno, at int) {
	if errno := code.Valid(c); errno != api.OK {
		return nil, errno, 0
	}
	if main := c.Entrys[c.Main]; main.Params != 0 || main.Result != 0 {
		return nil, api.ErrKind, main.Start
	}
	known = map[int][]api.Sort{}
	for f, e := range c.Entrys {
		known[e.Start] = []api.Sort{}
		looked := map[int]bool{}
		for {
			at := -1
			for i := e.Start; functionAt(c, i) == f; i++ {
				if _, is := known[i]; is && !looked[i] {
					at = i
					break
				}
			}
			if at < 0 {
				break
			}
			looked[at] = true
			stack, errno := behind(c, e, c.Instrs[at], known[at])
			if errno != api.OK {
				return nil, errno, at
			}
			for _, to := range followersOf(c.Instrs[at], at) {
				before, is := known[to.at]
				switch {
				case functionAt(c, to.at) != f:
					return nil, to.outside, at
				case !is:
					known[to.at] = stack
				case len(before) != len(stack):
					return nil, api.ErrStack, at
				case !slices.Equal(before, stack):
					return nil, api.ErrKind, at
				}
			}
		}
	}
	return known, api.OK, 0
}

// certifies tells whether stacks fit one another, as P14.4 says it.
func certifies(c api.Code, stacks [][]api.Sort) bool {
	if len(stacks) != len(c.Instrs) {
		return false
	}
	for _, e := range c.Entrys {
		if stacks[e.Start] == nil || len(stacks[e.Start]) != 0 {
			return false
		}
	}
	for at, in := range c.Instrs {
		if stacks[at] == nil {
			continue
		}
		f := functionAt(c, at)
		stack, errno := behind(c, c.Entrys[f], in, stacks[at])
		if errno != api.OK || len(stacks[at]) > 400 {
			return false
		}
		for _, to := range followersOf(in, at) {
			if functionAt(c, to.at) != f || stacks[to.at] == nil || !slices.Equal(stacks[to.at], stack) {
				return false
			}
		}
	}
	return true
}

// holds asks for P14.1 to P14.4 of any code, and tells its error.
func holds(t *testing.T, c api.Code) api.Errno {
	t.Helper()
	known, want, wantAt := wanted(c)
	errno, at := Check(c)
	if errno != want || at != wantAt {
		t.Fatalf("Check of %s = %d, %d, want %d, %d", told(c), errno, at, want, wantAt)
	}
	stacks, errno := Stacks(c)
	if errno != want || want != api.OK && stacks != nil || want == api.OK && len(stacks) != len(c.Instrs) {
		t.Fatalf("Stacks of %s = %v, %d, want %d", told(c), stacks, errno, want)
	}
	for i, stack := range stacks {
		if w, is := known[i]; (stack != nil) != is || !slices.Equal(stack, w) {
			t.Fatalf("Stacks of %s: %v at %d, want %v", told(c), stack, i, w)
		}
	}
	if want == api.OK && !certifies(c, stacks) {
		t.Fatalf("Stacks of %s: %v do not fit", told(c), stacks)
	}
	highs(t, c, known, want)
	return want
}

// highs asks for P14.3.
func highs(t *testing.T, c api.Code, known map[int][]api.Sort, errno api.Errno) {
	t.Helper()
	most := make([]int, len(c.Entrys))
	for at, stack := range known {
		f := functionAt(c, at)
		most[f] = max(most[f], len(stack))
	}
	numbers := []int{-1, len(c.Entrys), math.MinInt, math.MaxInt}
	for f := range c.Entrys {
		numbers = append(numbers, f)
	}
	for _, f := range numbers {
		want, wantErrno := 0, errno
		if errno == api.OK && (f < 0 || f >= len(c.Entrys)) {
			wantErrno = api.ErrSlot
		} else if errno == api.OK {
			want = most[f]
		}
		if high, e := High(c, f); high != want || e != wantErrno {
			t.Fatalf("High of %s, %d = %d, %d, want %d, %d", told(c), f, high, e, want, wantErrno)
		}
	}
}

// told is a code as people read it.
func told(c api.Code) string {
	if len(c.Instrs) > 1000 {
		return "a long code"
	}
	text, errno := code.Print(c)
	if errno != api.OK {
		return "a code that may not be"
	}
	return text
}
