package shorten

import (
	"math"
	"math/rand"
	"slices"
	"strings"
	"testing"

	"retrace/api"
	"retrace/verify"
)

// grower makes safe codes.
type grower struct{ *rand.Rand }

func newGrower(seed int64) grower { return grower{rand.New(rand.NewSource(seed))} }

// seeds tells how many are grown.
func seeds(all int64) int64 {
	if testing.Short() {
		return all / 10
	}
	return all
}

// pick is one of some; the first ones come more often.
func pick[T any](g grower, list ...T) T {
	return list[min(g.Intn(len(list)), g.Intn(len(list)))]
}

func (g grower) number() int64 {
	return pick[int64](g, 1, 2, 0, -1, 3, 7, math.MaxInt64, math.MinInt64)
}

func (g grower) entry() api.Entry {
	e := api.Entry{Name: "f"}
	for range 1 + g.Intn(4) {
		e.Sorts = append(e.Sorts, pick[api.Sort](g, 1, 1, 2, 3, 5, 7))
	}
	e.Params = g.Intn(min(len(e.Sorts), 2) + 1)
	if g.Intn(2) == 0 {
		e.Result = pick[api.Sort](g, 1, 2, 3, 5)
	}
	return e
}

// pushes lays a value of a sort on the stack.
func (g grower) pushes(sort api.Sort) []api.Instr {
	switch sort {
	case 1:
		return []api.Instr{{Op: api.InInt, A: g.number()}}
	case 2:
		return []api.Instr{{Op: api.InBool, A: g.Int63n(2)}}
	case 3:
		return []api.Instr{{Op: api.InText, A: g.Int63n(3)}}
	}
	return []api.Instr{{Op: api.InInt, A: pick[int64](g, 2, 1, 0, 3)}, {Op: api.InNew, A: int64(sort - 4)}}
}

// ends is how a function ends.
func (g grower) ends(e api.Entry) []api.Instr {
	if e.Result == 0 {
		return []api.Instr{{Op: api.InDone}}
	}
	return append(g.pushes(e.Result), api.Instr{Op: api.InRet})
}

// code is a safe code: phrases are put in anywhere, and stay if it still is one.
func (g grower) code(tries int) api.Code {
	c := api.Code{Texts: []string{"x", "", strings.Repeat("long", 40)}}
	for range 1 + g.Intn(3) {
		c.Entrys = append(c.Entrys, g.entry())
	}
	c.Main = g.Intn(len(c.Entrys))
	c.Entrys[c.Main].Params, c.Entrys[c.Main].Result = 0, 0
	for f := range c.Entrys {
		c.Entrys[f].Start = len(c.Instrs)
		c.Instrs = append(c.Instrs, g.ends(c.Entrys[f])...)
	}
	for range tries {
		larger := g.with(c)
		if errno, _ := verify.Check(larger); errno == api.OK {
			c = larger
		}
	}
	return c
}

// with is a code with some instructions more, or with another one, or another jump, somewhere.
func (g grower) with(c api.Code) api.Code {
	c = copied(c)
	at := g.Intn(len(c.Instrs))
	switch in := &c.Instrs[at]; {
	case isJump(*in) && g.Intn(2) == 0:
		in.A = g.target(c, at)
		return c
	case g.Intn(12) == 0:
		*in = g.one(c, at)
		return c
	}
	phrase := g.phrase(c, at)
	most := int64(at) // what is named there goes on being named, or the phrase is
	if g.Intn(2) == 0 {
		most--
	}
	for n := range c.Instrs {
		if jump := &c.Instrs[n]; isJump(*jump) && jump.A > most {
			jump.A += int64(len(phrase))
		}
	}
	for f := range c.Entrys {
		if c.Entrys[f].Start > at {
			c.Entrys[f].Start += len(phrase)
		}
	}
	c.Instrs = slices.Insert(c.Instrs, at, phrase...)
	return c
}

// target is some instruction of the same piece mostly, near mostly.
func (g grower) target(c api.Code, at int) int64 {
	switch g.Intn(20) {
	case 0:
		return int64(len(c.Instrs) + g.Intn(3))
	case 1:
		return 59999
	case 2:
		return g.Int63n(int64(len(c.Instrs)))
	}
	return int64(max(0, at-6+g.Intn(14)))
}

// one is some instruction that stands alone mostly.
func (g grower) one(c api.Code, at int) api.Instr {
	slots := int64(len(c.Entrys[pieceOf(c, at)].Sorts))
	switch g.Intn(14) {
	case 0, 1:
		return api.Instr{Op: api.InJump, A: g.target(c, at)}
	case 2:
		return api.Instr{Op: api.InFalse, A: g.target(c, at)}
	case 3:
		return api.Instr{Op: api.InEmit, A: 1 + g.Int63n(9)}
	case 4:
		return api.Instr{Op: api.InShow, A: 1 + g.Int63n(9), B: g.Int63n(slots)}
	case 5:
		return api.Instr{Op: api.InTell, A: 1 + g.Int63n(9)}
	case 6:
		return api.Instr{Op: api.InUn, A: 1 + g.Int63n(2)}
	case 7:
		return api.Instr{Op: api.InBin, A: 3 + g.Int63n(11)}
	case 8:
		return api.Instr{Op: api.InStore, A: g.Int63n(slots)}
	case 9:
		return api.Instr{Op: api.InLoad, A: g.Int63n(slots)}
	case 10:
		return api.Instr{Op: api.InPop}
	case 11:
		return g.pushes(pick[api.Sort](g, 2, 1, 3))[0]
	case 12:
		return api.Instr{Op: pick(g, api.InDone, api.InRet, api.InLen, api.InStr, api.InRead)}
	}
	return api.Instr{Op: api.InNop}
}

// phrase is instructions that make sense at a place, as far as one can know without its stack.
func (g grower) phrase(c api.Code, at int) []api.Instr {
	f := pieceOf(c, at)
	e := c.Entrys[f]
	slot := g.Int63n(int64(len(e.Sorts)))
	op := func(op api.Code8, a int64) []api.Instr { return []api.Instr{{Op: op, A: a}} }
	truth := append(op(api.InRead, 0), append(g.pushes(1), op(api.InBin, int64(pick(g, api.OpLt, api.OpEq)))...)...)
	if g.Intn(2) == 0 {
		truth = op(api.InBool, g.Int63n(2))
	}
	here := int64(at + len(truth))
	switch g.Intn(18) {
	case 0:
		return slices.Concat(g.pushes(1), op(api.InUn, 1))
	case 1:
		return slices.Concat(g.pushes(2), op(api.InUn, 2))
	case 2, 3:
		both := pick[api.Sort](g, 1, 1, 2, 3)
		operator := 3 + g.Int63n(11)
		if both == 3 && g.Intn(2) == 0 {
			operator = int64(api.OpAdd)
		}
		return slices.Concat(g.pushes(both), g.pushes(both), op(api.InBin, operator), op(pick(g, api.InPop, api.InNop, api.InStr), 0))
	case 4:
		return slices.Concat(truth, op(api.InFalse, g.target(c, at)))
	case 5: // as && has it
		return slices.Concat(truth, op(api.InFalse, here+3), op(api.InBool, g.Int63n(2)), op(api.InJump, here+4), op(api.InBool, g.Int63n(2)), op(api.InFalse, g.target(c, at)))
	case 6:
		return slices.Concat(g.pushes(pick[api.Sort](g, 1, 2, 3)), op(api.InPop, 0))
	case 7:
		if g.Intn(3) == 0 {
			return slices.Concat(op(api.InLoad, slot), op(api.InPop, 0))
		}
		return slices.Concat(op(api.InLoad, slot), op(api.InStore, slot))
	case 8:
		return slices.Concat(g.pushes(e.Sorts[slot]), op(api.InStore, slot))
	case 9:
		return slices.Concat(g.pushes(pick[api.Sort](g, 1, 3, 2)), op(pick(g, api.InTell, api.InPrint), 1), op(api.InPop, 0)[:g.Intn(2)])
	case 10:
		return op(api.InJump, int64(at+1))
	case 11:
		return slices.Concat(truth, op(api.InFalse, here+1+int64(len(g.ends(e)))), g.ends(e))
	case 12:
		return g.calling(c, f)
	case 13:
		sort := pick[api.Sort](g, 1, 2, 3)
		return slices.Concat(g.pushes(sort+4), op(api.InInt, pick[int64](g, 0, 1, 2)), op(api.InGet, 0), op(api.InPop, 0))
	case 14: // a loop, or what looks like one
		return slices.Concat(truth, op(api.InFalse, here+3), op(api.InEmit, 5), op(api.InJump, int64(at)))
	case 15:
		return slices.Concat(op(api.InRead, 0), op(api.InPrint, 1))
	}
	return []api.Instr{g.one(c, at)}
}

func (g grower) calling(c api.Code, f int) []api.Instr {
	to := g.Intn(len(c.Entrys))
	if to <= f && g.Intn(4) > 0 { // one that may not come back makes all behind it idle
		to = len(c.Entrys) - 1
	}
	var phrase []api.Instr
	for _, sort := range c.Entrys[to].Sorts[:c.Entrys[to].Params] {
		phrase = append(phrase, g.pushes(sort)...)
	}
	phrase = append(phrase, api.Instr{Op: api.InCall, A: int64(to)})
	if c.Entrys[to].Result != 0 {
		phrase = append(phrase, api.Instr{Op: api.InPop})
	}
	return phrase
}

func (g grower) input() []int64 {
	list := make([]int64, g.Intn(8))
	for n := range list {
		list[n] = g.number()
	}
	return list
}

func (g grower) limits() api.Limits {
	return api.Limits{Depth: 1 + g.Intn(5), Cells: pick(g, 100, 20, 8, 4, 0)}
}
