package verify

import (
	"math"
	"math/rand"
	"slices"
	"testing"

	"retrace/api"
	"retrace/code"
)

// grower makes codes that are safe, with stacks that fit.
type grower struct{ *rand.Rand }

func newGrower(seed int64) grower { return grower{rand.New(rand.NewSource(seed))} }

// seeds tells how many codes are grown.
func seeds(all int64) int64 {
	if testing.Short() {
		return all / 10
	}
	return all
}

func (g grower) sort() api.Sort {
	return allSorts[min(g.Intn(15), g.Intn(15))]
}

func (g grower) sorts(most int) []api.Sort {
	var list []api.Sort
	for range g.Intn(most + 1) {
		list = append(list, g.sort())
	}
	return list
}

func (g grower) entry() api.Entry {
	e := api.Entry{Name: "f", Sorts: g.sorts(5)}
	e.Params = g.Intn(min(len(e.Sorts), 3) + 1)
	if g.Intn(2) == 0 {
		e.Result = g.sort()
	}
	return e
}

// anyInstr is some instruction that may be; what it names is there mostly.
func (g grower) anyInstr(c api.Code) api.Instr {
	in := api.Instr{Op: api.Code8(g.Intn(24))}
	switch in.Op {
	case api.InInt:
		in.A = []int64{0, 1, -1, math.MaxInt64, math.MinInt64}[g.Intn(5)]
	case api.InBool:
		in.A = g.Int63n(2)
	case api.InText:
		in.A = g.Int63n(int64(len(c.Texts)) + 1)
	case api.InLoad, api.InStore:
		in.A = g.Int63n(6)
	case api.InUn:
		in.A = 1 + g.Int63n(2)
	case api.InBin:
		in.A = 3 + g.Int63n(11)
	case api.InJump, api.InFalse:
		in.A = g.Int63n(int64(len(c.Instrs)) + 2)
	case api.InCall:
		in.A = g.Int63n(int64(len(c.Entrys)) + 1)
	case api.InNew:
		in.A = int64(allSorts[g.Intn(12)])
	case api.InPrint:
		in.A = 1 + g.Int63n(4)
	case api.InEmit, api.InTell:
		in.A = 1 + g.Int63n(40000)
	case api.InShow:
		in.A, in.B = 1+g.Int63n(40000), g.Int63n(6)
	}
	return in
}

// code grows a safe code, and for each instruction, led to or not, a stack that fits.
func (g grower) code() (api.Code, [][]api.Sort) {
	c := api.Code{Texts: []string{"", "a", "b"}[:g.Intn(4)]}
	for range 1 + g.Intn(3) {
		c.Entrys = append(c.Entrys, g.entry())
	}
	c.Main = g.Intn(len(c.Entrys))
	c.Entrys[c.Main].Params, c.Entrys[c.Main].Result = 0, 0
	var stacks [][]api.Sort
	for f := range c.Entrys {
		stacks = g.piece(&c, f, stacks)
	}
	return c, stacks
}

// piece grows the instructions of one function.
func (g grower) piece(c *api.Code, f int, stacks [][]api.Sort) [][]api.Sort {
	c.Entrys[f].Start = len(c.Instrs)
	e, stack := c.Entrys[f], []api.Sort{}
	var phrase []api.Instr
	for left := 3 + g.Intn(12); ; left-- {
		if len(phrase) == 0 && g.Intn(6) == 0 {
			phrase = g.phrase()
		}
		in, then := g.step(*c, e, stack, left <= 0)
		if len(phrase) > 0 && left > 0 {
			if after, errno := behind(*c, e, phrase[0], stack); errno == api.OK {
				in, then = phrase[0], after
			}
			phrase = phrase[1:]
		}
		c.Instrs, stacks = append(c.Instrs, in), append(stacks, stack)
		if len(followersOf(in, 0)) > 0 && in.Op != api.InJump {
			stack = then
			continue
		}
		if left <= 0 {
			break
		}
		// Behind what has no next one any stack may be; one that is there already makes it likely that a way leads to it.
		stack = slices.Clone(stacks[e.Start+g.Intn(len(stacks)-e.Start)])
		if g.Intn(3) == 0 {
			stack = append([]api.Sort{}, g.sorts(3)...)
		}
	}
	for at := e.Start; at < len(c.Instrs); at++ {
		if in := &c.Instrs[at]; in.Op == api.InJump || in.Op == api.InFalse {
			in.A = g.target(*c, e, stacks, at)
		}
	}
	return stacks
}

// phrase is some instructions that are seldom grown in this order.
func (g grower) phrase() []api.Instr {
	sort := g.Int63n(2) + 1
	array := []api.Instr{{Op: api.InInt}, {Op: api.InNew, A: sort}, {Op: api.InInt}}
	if g.Intn(2) == 0 {
		return append(array, api.Instr{Op: api.InGet})
	}
	return append(array, api.Instr{Op: api.Code8(sort)}, api.Instr{Op: api.InPut}) // the instructions int and bool have the numbers of the sorts
}

// step is an instruction that can stand at a stack, and the stack behind it; the last one has no next one.
func (g grower) step(c api.Code, e api.Entry, stack []api.Sort, last bool) (api.Instr, []api.Sort) {
	for tries := 0; ; tries++ {
		in := g.anyInstr(c)
		if last && tries < 50 {
			in = api.Instr{Op: []api.Code8{api.InRet, api.InDone}[g.Intn(2)]}
		}
		if last && tries >= 50 {
			in = api.Instr{Op: api.InJump}
		}
		// Ends and jumps stand seldom, so that pieces get long.
		if !last && (in.Op == api.InRet || in.Op == api.InDone || in.Op == api.InJump) && g.Intn(3) > 0 {
			continue
		}
		if then, errno := behind(c, e, in, stack); errno == api.OK {
			return in, then
		}
	}
}

// target is an instruction of the piece that has the stack behind the jump at a place; the jump itself is one, or the next one.
func (g grower) target(c api.Code, e api.Entry, stacks [][]api.Sort, at int) int64 {
	then, _ := behind(c, e, c.Instrs[at], stacks[at])
	var fit []int64
	for to := e.Start; to < len(stacks); to++ {
		if slices.Equal(stacks[to], then) {
			fit = append(fit, int64(to))
		}
	}
	return fit[g.Intn(len(fit))]
}

// ledTo tells of which instructions some way leads to them.
func ledTo(c api.Code) map[int]bool {
	led := map[int]bool{}
	var open []int
	for _, e := range c.Entrys {
		open = append(open, e.Start)
	}
	for len(open) > 0 {
		at := open[0]
		open = open[1:]
		if led[at] {
			continue
		}
		led[at] = true
		for _, to := range followersOf(c.Instrs[at], at) {
			open = append(open, to.at)
		}
	}
	return led
}

// P14.2 to P14.4: a code to which stacks fit is safe, and where a way leads these are its stacks.
func TestGrown(t *testing.T) {
	ops, dead := map[api.Code8]int{}, 0
	for seed := range seeds(20000) {
		c, fit := newGrower(seed).code()
		if !certifies(c, fit) {
			t.Fatalf("%s: %v do not fit", told(c), fit)
		}
		if errno := holds(t, c); errno != api.OK {
			t.Fatalf("%s: %d", told(c), errno)
		}
		stacks, _ := Stacks(c)
		led := ledTo(c)
		for at, stack := range stacks {
			if (stack != nil) != led[at] || led[at] && !slices.Equal(stack, fit[at]) {
				t.Fatalf("%s: %v at %d, want %v, %v", told(c), stack, at, fit[at], led[at])
			}
			if led[at] {
				ops[c.Instrs[at].Op]++
			} else {
				dead++
			}
		}
	}
	for op := range api.Code8(24) {
		if ops[op] < int(seeds(200)) {
			t.Errorf("the instruction %d is led to but %d times", op, ops[op])
		}
	}
	if dead < int(seeds(5000)) {
		t.Errorf("no way leads to but %d", dead)
	}
}

// spoil changes something of a code, which may then be safe or not.
func (g grower) spoil(c *api.Code) {
	at, other := g.Intn(len(c.Instrs)), g.Intn(len(c.Instrs))
	e := &c.Entrys[g.Intn(len(c.Entrys))]
	switch g.Intn(9) {
	case 0, 1:
		c.Instrs[at] = g.anyInstr(*c)
	case 2:
		if in := &c.Instrs[at]; in.Op == api.InJump || in.Op == api.InFalse {
			in.A = []int64{int64(other), int64(at), int64(len(c.Instrs)), 59999}[g.Intn(4)]
		}
	case 3:
		c.Instrs[at], c.Instrs[other] = c.Instrs[other], c.Instrs[at]
	case 4:
		if len(e.Sorts) > 0 {
			e.Sorts[g.Intn(len(e.Sorts))] = g.sort()
		}
	case 5:
		e.Result = []api.Sort{0, g.sort()}[g.Intn(2)]
	case 6:
		if last := &c.Entrys[len(c.Entrys)-1]; len(c.Entrys) > 1 {
			last.Start = max(last.Start+g.Intn(3)-1, c.Entrys[len(c.Entrys)-2].Start+1)
			last.Start = min(last.Start, len(c.Instrs)-1)
		}
	case 7:
		c.Instrs = slices.Insert(c.Instrs, len(c.Instrs), g.anyInstr(*c))
	case 8:
		if len(e.Sorts) > 0 {
			e.Sorts = e.Sorts[:len(e.Sorts)-1]
			e.Params = min(e.Params, len(e.Sorts))
		}
	}
}

// P14.1 to P14.4: safe codes with something changed.
func TestSpoilt(t *testing.T) {
	codes := map[api.Errno]int{}
	for seed := range seeds(40000) {
		g := newGrower(seed)
		c, _ := g.code()
		for range 1 + g.Intn(3) {
			g.spoil(&c)
		}
		codes[holds(t, c)]++
	}
	for _, errno := range []api.Errno{api.OK, api.ErrJump, api.ErrStack, api.ErrKind, api.ErrSlot, api.ErrEnd} {
		if codes[errno] < int(seeds(500)) {
			t.Errorf("too few of a kind: %v", codes)
		}
	}
}

// P14.5: whichever follower is taken each time, the stack is what Stacks tells.
func TestEveryWay(t *testing.T) {
	for seed := range seeds(5000) {
		g := newGrower(seed)
		c, _ := g.code()
		stacks, errno := Stacks(c)
		if errno != api.OK {
			t.Fatal(told(c), errno)
		}
		for f, e := range c.Entrys {
			for range 5 {
				at, stack := e.Start, []api.Sort{}
				for range 60 {
					if stacks[at] == nil || !slices.Equal(stacks[at], stack) || functionAt(c, at) != f {
						t.Fatalf("%s: a way comes to %d with %v, told is %v", told(c), at, stack, stacks[at])
					}
					stack, errno = behind(c, e, c.Instrs[at], stack)
					if errno != api.OK {
						t.Fatalf("%s: a way ends at %d with %d", told(c), at, errno)
					}
					next := followersOf(c.Instrs[at], at)
					if len(next) == 0 {
						break
					}
					at = next[g.Intn(len(next))].at
				}
			}
		}
	}
}

// P14.6: what no way leads to does not count.
func TestNotLedTo(t *testing.T) {
	changed := 0
	for seed := range seeds(20000) {
		g := newGrower(seed)
		c, _ := g.code()
		before, _ := Stacks(c)
		for at, stack := range before {
			if stack == nil && g.Intn(4) > 0 {
				c.Instrs[at] = g.anyInstr(c)
				changed++
			}
		}
		if code.Valid(c) != api.OK {
			t.Fatalf("%v may not be", c)
		}
		after, errno := Stacks(c)
		if errno != api.OK || !slices.EqualFunc(before, after, func(a, b []api.Sort) bool { return (a == nil) == (b == nil) && slices.Equal(a, b) }) {
			t.Fatalf("%s: %v, %d, before %v", told(c), after, errno, before)
		}
		holds(t, c)
	}
	if changed < int(seeds(5000)) {
		t.Errorf("but %d were changed", changed)
	}
}

// P14.7: anything.
func TestJunk(t *testing.T) {
	codes := map[api.Errno]int{}
	for seed := range seeds(50000) {
		g := newGrower(seed)
		number := func() int64 {
			return []int64{0, 0, 0, 1, 1, 2, 3, 5, -1, 4, 20, 250, math.MaxInt64, math.MinInt64, 1 << 32}[g.Intn(15)]
		}
		c, _ := g.code()
		if g.Intn(2) == 0 {
			c.Instrs = nil
			for range g.Intn(6) {
				c.Instrs = append(c.Instrs, g.anyInstr(c))
			}
		}
		switch at := g.Intn(len(c.Entrys)); g.Intn(8) {
		case 0:
			c.Main = int(number())
		case 1:
			c.Entrys[at].Start = int(number())
		case 2:
			c.Entrys[at].Params = int(number())
		case 3:
			c.Entrys[at].Result = api.Sort(number())
		case 4:
			c.Entrys[at].Sorts = append(c.Entrys[at].Sorts, api.Sort(number()))
		case 5:
			c.Instrs = append(c.Instrs, api.Instr{Op: api.Code8(number()), A: number(), B: number()})
		case 6:
			c.Entrys = c.Entrys[:at]
		}
		codes[holds(t, c)]++
	}
	if least := int(seeds(1000)); codes[api.ErrCode] < least || codes[api.OK] < least {
		t.Errorf("too few of a kind: %v", codes)
	}
}
