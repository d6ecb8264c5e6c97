package verify

import (
	"slices"
	"testing"

	"retrace/api"
)

// slotsOfAll is a main with a slot of each sort, in the order of allSorts.
func slotsOfAll() api.Entry {
	return api.Entry{Name: "main", Sorts: slices.Clone(allSorts)}
}

// laid is a list of instructions that lay values of these sorts on the stack, by slotsOfAll's slots.
func laid(stack []api.Sort) []api.Instr {
	var instrs []api.Instr
	for _, s := range stack {
		instrs = append(instrs, api.Instr{Op: api.InLoad, A: int64(slices.Index(allSorts, s))})
	}
	return instrs
}

// shortStacks is all stacks of at most so many values.
func shortStacks(most int) [][]api.Sort {
	stacks := [][]api.Sort{{}}
	for from, height := 0, 0; height < most; height++ {
		end := len(stacks)
		for _, below := range stacks[from:end] {
			for _, s := range allSorts {
				stacks = append(stacks, append(slices.Clone(below), s))
			}
		}
		from = end
	}
	return stacks
}

// callees are functions with all kinds of parameters and results; main is the number 0.
func callees() []api.Entry {
	return []api.Entry{
		{Name: "none"}, {Name: "gives", Result: 6},
		{Name: "one", Params: 1, Sorts: []api.Sort{9}}, {Name: "oneGives", Params: 1, Sorts: []api.Sort{1, 2}, Result: 1},
		{Name: "two", Params: 2, Sorts: []api.Sort{1, 2}}, {Name: "twoGive", Params: 2, Sorts: []api.Sort{3, 7, 1}, Result: 19},
		{Name: "three", Params: 3, Sorts: []api.Sort{5, 1, 1}, Result: 2}, {Name: "slots", Sorts: []api.Sort{1, 2, 3}},
	}
}

// sampleInstrs has every instruction, with each operand that makes a difference, and some that name nothing.
func sampleInstrs() []api.Instr {
	instrs := []api.Instr{
		{Op: api.InNop}, {Op: api.InInt, A: -5}, {Op: api.InInt, A: 1 << 62}, {Op: api.InBool}, {Op: api.InBool, A: 1}, {Op: api.InText}, {Op: api.InText, A: 1}, {Op: api.InText, A: 2}, {Op: api.InText, A: 3999}, {Op: api.InPop},
		{Op: api.InRet}, {Op: api.InDone}, {Op: api.InGet}, {Op: api.InPut}, {Op: api.InLen}, {Op: api.InStr}, {Op: api.InRead}, {Op: api.InEmit, A: 1}, {Op: api.InTell, A: 40000},
		{Op: api.InShow, A: 1}, {Op: api.InShow, A: 1, B: 14}, {Op: api.InShow, A: 1, B: 15}, {Op: api.InShow, A: 40000, B: 249}, {Op: api.InUn, A: 1}, {Op: api.InUn, A: 2}, {Op: api.InPrint, A: 1}, {Op: api.InPrint, A: 2}, {Op: api.InPrint, A: 3}, {Op: api.InPrint, A: 16},
		{Op: api.InLoad, A: 15}, {Op: api.InStore, A: 15}, {Op: api.InLoad, A: 249}, {Op: api.InStore, A: 249}, {Op: api.InCall, A: 9}, {Op: api.InCall, A: 59},
	}
	for slot := range allSorts {
		instrs = append(instrs, api.Instr{Op: api.InLoad, A: int64(slot)}, api.Instr{Op: api.InStore, A: int64(slot)})
	}
	for op := api.OpAdd; op <= api.OpGe; op++ {
		instrs = append(instrs, api.Instr{Op: api.InBin, A: int64(op)})
	}
	for _, s := range allSorts[:12] {
		instrs = append(instrs, api.Instr{Op: api.InNew, A: int64(s)})
	}
	for f := range callees() {
		instrs = append(instrs, api.Instr{Op: api.InCall, A: int64(1 + f)})
	}
	return instrs
}

// tried is a code that lays a stack, does an instruction with it, and ends.
func tried(stack []api.Sort, in api.Instr) api.Code {
	c := api.Code{Texts: []string{"", "x"}, Instrs: append(laid(stack), in, api.Instr{Op: api.InDone}), Entrys: append([]api.Entry{slotsOfAll()}, callees()...)}
	for f := range c.Entrys[1:] {
		// Which result they give, or whether, does not count: they go round.
		c.Entrys[1+f].Start = len(c.Instrs)
		c.Instrs = append(c.Instrs, api.Instr{Op: api.InJump, A: int64(len(c.Instrs))})
	}
	return c
}

// P14.1, P14.2: each instruction with every stack of up to three values.
func TestTable(t *testing.T) {
	height := 3
	if testing.Short() {
		height = 2
	}
	codes := map[api.Errno]int{}
	for _, stack := range shortStacks(height) {
		for _, in := range sampleInstrs() {
			c := tried(stack, in)
			want, wantErrno := behind(c, c.Entrys[0], in, stack)
			errno, at := Check(c)
			if errno != wantErrno || errno != api.OK && at != len(stack) || errno == api.OK && at != 0 {
				t.Fatalf("%v with %v: %d, %d, want %d", in, stack, errno, at, wantErrno)
			}
			codes[errno]++
			stacks, _ := Stacks(c)
			if errno == api.OK && in.Op != api.InRet && in.Op != api.InDone && !slices.Equal(stacks[len(stack)+1], want) {
				t.Fatalf("%v with %v: %v, want %v", in, stack, stacks[len(stack)+1], want)
			}
		}
	}
	for _, errno := range []api.Errno{api.OK, api.ErrSlot, api.ErrStack, api.ErrKind} {
		if codes[errno] < 100 {
			t.Errorf("too few of a kind: %v", codes)
		}
	}
}

// P14.1: the ends of functions with each result, with every stack of up to two values.
func TestEnds(t *testing.T) {
	for _, result := range append([]api.Sort{0}, allSorts...) {
		for _, stack := range shortStacks(2) {
			for _, op := range []api.Code8{api.InRet, api.InDone} {
				f := slotsOfAll()
				f.Name, f.Start, f.Result = "f", 1, result
				c := api.Code{Instrs: append([]api.Instr{{Op: api.InDone}}, append(laid(stack), api.Instr{Op: op})...), Entrys: []api.Entry{{Name: "main"}, f}}
				want := api.OK
				switch {
				case op == api.InRet && len(stack) == 0:
					want = api.ErrStack
				case op == api.InRet && (result == 0 || stack[len(stack)-1] != result), op == api.InDone && result != 0:
					want = api.ErrKind
				}
				if errno, at := Check(c); errno != want || errno != api.OK && at != len(c.Instrs)-1 {
					t.Fatalf("%d with %v, of a function that gives %d: %d, %d, want %d", op, stack, result, errno, at, want)
				}
			}
		}
	}
}

// P14.1: what is printed, as many as may be, one of them of another sort.
func TestPrints(t *testing.T) {
	for count := 1; count <= 16; count++ {
		for wrong := -1; wrong < count; wrong++ {
			for _, s := range allSorts {
				stack := slices.Repeat([]api.Sort{1, 2, 3}, 6)[:count]
				if wrong >= 0 {
					stack[wrong] = s
				}
				// What lies below is not printed.
				stack = append([]api.Sort{5}, stack...)
				c := tried(stack, api.Instr{Op: api.InPrint, A: int64(count)})
				want := api.OK
				if wrong >= 0 && s > 4 {
					want = api.ErrKind
				}
				if errno, _ := Check(c); errno != want {
					t.Fatalf("print %d with %v: %d, want %d", count, stack, errno, want)
				}
			}
		}
	}
}
