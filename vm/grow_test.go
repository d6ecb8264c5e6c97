package vm

import (
	"math"
	"math/rand"
	"slices"
	"strings"
	"testing"

	"retrace/api"
	"retrace/code"
	"retrace/verify"
)

// grower makes codes and states.
type grower struct{ *rand.Rand }

func newGrower(seed int64) grower { return grower{rand.New(rand.NewSource(seed))} }

// seeds tells how many are grown.
func seeds(all int64) int64 {
	if testing.Short() {
		return all / 10
	}
	return all
}

var allSorts = []api.Sort{1, 2, 3, 5, 6, 7, 9, 10, 11, 13, 14, 15, 17, 18, 19}

// pick is one of some; the first ones come more often.
func pick[T any](g grower, list []T) T {
	return list[min(g.Intn(len(list)), g.Intn(len(list)))]
}

func (g grower) sorts(most int) []api.Sort {
	var list []api.Sort
	for range g.Intn(most + 1) {
		list = append(list, pick(g, allSorts))
	}
	return list
}

func (g grower) number() int64 {
	if g.Intn(4) == 0 {
		return 0
	}
	return pick(g, []int64{0, 1, 2, 3, -1, 5, 100, 256, math.MaxInt64, math.MinInt64, 1 << 32, -1 << 33})
}

func (g grower) text() string {
	return pick(g, []string{"", "a", "ab", "\x00\xff", strings.Repeat("w", 128), strings.Repeat("v", 200)})
}

func (g grower) entrys() []api.Entry {
	var list []api.Entry
	for range 1 + g.Intn(3) {
		e := api.Entry{Name: "f", Sorts: g.sorts(4)}
		e.Params = g.Intn(min(len(e.Sorts), 3) + 1)
		if g.Intn(2) == 0 {
			e.Result = pick(g, allSorts)
		}
		list = append(list, e)
	}
	return list
}

// instr is some instruction that may be; what it names is there mostly.
func (g grower) instr(c api.Code) api.Instr {
	in := api.Instr{Op: api.Code8(g.Intn(24))}
	switch in.Op {
	case api.InInt:
		in.A = g.number()
	case api.InBool:
		in.A = g.Int63n(2)
	case api.InText:
		in.A = g.Int63n(int64(len(c.Texts)) + 1)
	case api.InLoad, api.InStore:
		in.A = g.Int63n(5)
	case api.InUn:
		in.A = 1 + g.Int63n(2)
	case api.InBin:
		in.A = 3 + g.Int63n(11)
	case api.InJump, api.InFalse:
		in.A = g.Int63n(int64(len(c.Instrs)) + 2)
	case api.InCall:
		in.A = g.Int63n(int64(len(c.Entrys)) + 1)
	case api.InNew:
		in.A = int64(allSorts[g.Intn(12)])
	case api.InPrint:
		in.A = 1 + g.Int63n(4)
	case api.InEmit, api.InTell:
		in.A = 1 + g.Int63n(40000)
	case api.InShow:
		in.A, in.B = 1+g.Int63n(40000), g.Int63n(5)
	}
	return in
}

// mainOf makes one of the functions main.
func (g grower) mainOf(c *api.Code) {
	c.Main = pick(g, []int{0, 1, 2}[:len(c.Entrys)])
	c.Entrys[c.Main].Params, c.Entrys[c.Main].Result = 0, 0
}

// junk is a code that may be, of instructions as they come.
func (g grower) junk() api.Code {
	c := api.Code{Entrys: g.entrys()}
	for range g.Intn(4) {
		c.Texts = append(c.Texts, g.text())
	}
	g.mainOf(&c)
	c.Instrs = make([]api.Instr, len(c.Entrys)+g.Intn(10))
	for at := range c.Instrs {
		c.Instrs[at] = g.instr(c)
	}
	starts := g.Perm(len(c.Instrs) - 1)[:len(c.Entrys)-1]
	slices.Sort(starts)
	for f, start := range starts {
		c.Entrys[f+1].Start = start + 1
	}
	return c
}

// safe is a safe code with ways to all its instructions: some are put in anywhere, and stay if it still is such a one.
func (g grower) safe(tries int) api.Code {
	c := api.Code{Entrys: g.entrys(), Texts: []string{"x", "", "long"}}
	g.mainOf(&c)
	for f := range c.Entrys {
		c.Entrys[f].Start = len(c.Instrs)
		c.Instrs = append(c.Instrs, g.ends(c.Entrys[f])...)
	}
	for range tries {
		larger := g.with(c)
		stacks, errno := verify.Stacks(larger)
		if errno == api.OK && !slices.ContainsFunc(stacks, func(stack []api.Sort) bool { return stack == nil }) {
			c = larger
		}
	}
	return c
}

// ends is how a function ends.
func (g grower) ends(e api.Entry) []api.Instr {
	if e.Result == 0 {
		return []api.Instr{{Op: api.InDone}}
	}
	return append(g.pushes(e.Result), api.Instr{Op: api.InRet})
}

// with is a code with some instructions more, or with another one, somewhere.
func (g grower) with(c api.Code) api.Code {
	c.Instrs, c.Entrys = slices.Clone(c.Instrs), slices.Clone(c.Entrys)
	at := g.Intn(len(c.Instrs))
	if g.Intn(4) == 0 {
		c.Instrs[at] = g.instr(c)
		return c
	}
	phrase := g.phrase(c, at)
	for n := range c.Instrs {
		if jump := &c.Instrs[n]; (jump.Op == api.InJump || jump.Op == api.InFalse) && jump.A > int64(at) {
			jump.A += int64(len(phrase))
		}
	}
	for f := range c.Entrys {
		if c.Entrys[f].Start > at {
			c.Entrys[f].Start += len(phrase)
		}
	}
	c.Instrs = slices.Insert(c.Instrs, at, phrase...)
	return c
}

// pushes lays a value of a sort on the stack.
func (g grower) pushes(sort api.Sort) []api.Instr {
	if sort > 4 {
		return []api.Instr{{Op: api.InInt, A: pick(g, []int64{2, 3, 1, 0})}, {Op: api.InNew, A: int64(sort - 4)}}
	}
	in := api.Instr{Op: api.Code8(sort)} // the instructions int, bool and text have the numbers of the sorts
	switch sort {
	case 1:
		in.A = g.number()
	case 2:
		in.A = g.Int63n(2)
	}
	return []api.Instr{in}
}

// phrase is instructions that make sense at a place, as far as one can know without its stack.
func (g grower) phrase(c api.Code, at int) []api.Instr {
	f := 0
	for n, e := range c.Entrys {
		if e.Start <= at {
			f = n
		}
	}
	e, sort := c.Entrys[f], pick(g, allSorts[:12])
	op := func(op api.Code8, a int64) []api.Instr { return []api.Instr{{Op: op, A: a}} }
	index := op(api.InInt, pick(g, []int64{0, 0, 1, 0, 1, 2, -1}))
	switch g.Intn(14) {
	case 0:
		if len(e.Sorts) > 0 {
			slot := g.Intn(len(e.Sorts))
			return append(g.pushes(e.Sorts[slot]), op(api.InStore, int64(slot))...)
		}
	case 1:
		both := pick(g, []api.Sort{1, 3, 2, 5})
		return slices.Concat(g.pushes(both), g.pushes(both), op(api.InBin, 3+g.Int63n(11)))
	case 2:
		return slices.Concat(g.pushes(sort+4), index, op(api.InGet, 0))
	case 3:
		return slices.Concat(g.pushes(sort+4), index, g.pushes(sort), op(api.InPut, 0))
	case 4, 10, 11:
		to := g.Intn(len(c.Entrys))
		if to <= f && g.Intn(8) > 0 { // a call that may not come back makes all behind it idle
			break
		}
		var arguments []api.Instr
		for _, sort := range c.Entrys[to].Sorts[:c.Entrys[to].Params] {
			arguments = append(arguments, g.pushes(sort)...)
		}
		return append(arguments, op(api.InCall, int64(to))...)
	case 5:
		ends := g.ends(e)
		return slices.Concat(op(api.InBool, pick(g, []int64{0, 1})), op(api.InFalse, int64(at+2+len(ends))), ends)
	case 6:
		return slices.Concat(op(api.InBool, pick(g, []int64{1, 0})), op(api.InFalse, int64(at)))
	case 7:
		return slices.Concat(op(api.InRead, 0), op(api.InInt, 0), op(api.InBin, int64(api.OpEq)), op(api.InFalse, int64(at)))
	case 12:
		return op(api.InJump, int64(at+1))
	case 8:
		return slices.Concat(g.pushes(1), g.pushes(api.Sort(1+g.Intn(3))), op(api.InPrint, 1+g.Int63n(2)))
	case 9:
		return slices.Concat(g.pushes(sort+4), op(api.InLen, 0), op(api.InStr, 0))
	}
	return []api.Instr{g.instr(c)}
}

func (g grower) input() []int64 {
	var list []int64
	for range g.Intn(4) {
		list = append(list, g.number())
	}
	return list
}

// roomy is limits that traps come seldom of.
func (g grower) roomy() api.Limits {
	return api.Limits{Depth: 2 + g.Intn(10), Cells: 500}
}

func (g grower) limits() api.Limits {
	return api.Limits{Depth: 1 + g.Intn(5), Cells: pick(g, []int{20, 8, 5, 0, 200})}
}

// fitting is a value of a sort, with so many arrays.
func (g grower) fitting(sort api.Sort, arrays int) api.Value {
	switch sort {
	case 1:
		return i(g.number())
	case 2:
		return b(g.Int63n(2))
	case 3:
		if g.Intn(4) == 0 {
			return s(strings.Repeat("u", 256))
		}
		return s(g.text())
	}
	return r(g.Int63n(int64(arrays) + 1))
}

func (g grower) values(count, arrays int) []api.Value {
	var list []api.Value
	for range count {
		list = append(list, g.fitting(pick(g, allSorts), arrays))
	}
	return list
}

// arrays makes arrays till there is no room for the next one.
func (g grower) arrays(st *state) {
	for range g.Intn(5) {
		a := array{kind: api.ValueKind(1 + g.Intn(4))}
		length := g.Intn(4)
		if st.cells()+int64(length)+1 > int64(st.l.Cells) {
			return
		}
		a.elements = make([]api.Value, length)
		st.arrays = append(st.arrays, a)
	}
}

// state is any state of a code that may be.
func (g grower) state(c api.Code, input []int64, l api.Limits) state {
	st, _ := begun(c, input, l)
	g.arrays(&st)
	for _, a := range st.arrays {
		for n := range a.elements {
			a.elements[n] = g.fitting(api.Sort(a.kind), len(st.arrays))
		}
	}
	st.steps = pick(g, []uint64{0, 7, 1<<62 - 1, 1 << 62})
	st.read = len(input)
	if g.Intn(2) == 0 {
		st.read = g.Intn(len(input) + 1)
	}
	st.output = g.text()
	st.outcome = pick(g, []api.Outcome{{}, {}, {}, {Phase: api.Ended}, {Phase: api.Trapped, Trap: api.Trap(1 + g.Intn(7))}})
	st.frames = nil
	if st.outcome.Phase == api.Ended {
		return st
	}
	for depth := range 1 + g.Intn(l.Depth) {
		st.frames = append(st.frames, g.call(st, depth))
	}
	return st
}

func (g grower) call(st state, depth int) call {
	f := call{f: st.c.Main}
	if depth > 0 {
		f.f = g.Intn(len(st.c.Entrys))
	}
	first, end := st.piece(f.f)
	f.place = first + g.Intn(end-first)
	if g.Intn(20) == 0 {
		f.place = end
	}
	for _, sort := range st.c.Entrys[f.f].Sorts {
		f.slots = append(f.slots, g.fitting(sort, len(st.arrays)))
	}
	height := g.Intn(6)
	if g.Intn(6) == 0 {
		height = 400 - g.Intn(3)
	}
	f.stack = g.values(height, len(st.arrays))
	// What the next instruction takes is there more often than by chance.
	if g.Intn(2) == 0 && f.place < end {
		for n, v := range g.taken(st, f) {
			if at := len(f.stack) - 1 - n; at >= 0 {
				f.stack[at] = v
			}
		}
	}
	return f
}

// taken is values that the next instruction of a frame can take, the topmost first.
func (g grower) taken(st state, f call) []api.Value {
	fit := func(sorts ...api.Sort) []api.Value {
		var list []api.Value
		for _, sort := range sorts {
			list = append(list, g.fitting(sort, len(st.arrays)))
		}
		slices.Reverse(list)
		return list
	}
	e := st.c.Entrys[f.f]
	switch in := st.c.Instrs[f.place]; words[in.Op] {
	case "store":
		if in.A < int64(len(e.Sorts)) {
			return fit(e.Sorts[in.A])
		}
	case "un":
		return fit(api.Sort(in.A))
	case "bin":
		sort := []api.Sort{1, 3, 3}[g.Intn(3)]
		switch {
		case in.A >= int64(api.OpSub) && in.A <= int64(api.OpMod):
			sort = 1
		case in.A == int64(api.OpEq), in.A == int64(api.OpNe):
			sort = pick(g, allSorts)
		}
		return fit(sort, sort)
	case "false":
		return fit(2)
	case "call":
		if in.A < int64(len(st.c.Entrys)) {
			return fit(st.c.Entrys[in.A].Sorts[:st.c.Entrys[in.A].Params]...)
		}
	case "ret":
		return fit(max(e.Result, 1))
	case "new":
		return fit(1)
	case "get":
		return append(g.index(), fit(pick(g, []api.Sort{5, 3}))...)
	case "put":
		array := g.fitting(5, len(st.arrays))
		kind := api.Sort(1)
		if array.Int > 0 {
			kind = api.Sort(st.arrays[array.Int-1].kind)
		}
		return slices.Concat(fit(kind), g.index(), []api.Value{array})
	case "len":
		return fit(pick(g, []api.Sort{5, 3}))
	case "print":
		return fit(slices.Repeat([]api.Sort{1 + api.Sort(g.Intn(3))}, int(in.A))...)
	}
	return nil
}

// index is mostly one of those that many arrays have.
func (g grower) index() []api.Value {
	return []api.Value{i(pick(g, []int64{0, 0, 1, 2, -1, 3, math.MaxInt64, math.MinInt64}))}
}

// The grown codes may be; the test is worth something only so.
func TestGrownMayBe(t *testing.T) {
	for seed := range seeds(2000) {
		if c := newGrower(seed).junk(); code.Valid(c) != api.OK {
			t.Fatalf("%v may not be", c)
		}
	}
}
