package shorten

import (
	"math"
	"testing"

	"retrace/api"
	"retrace/verify"
)

// P27.1: each error that verify tells.
func TestUnsafe(t *testing.T) {
	seen := map[api.Errno]bool{}
	for _, text := range []string{
		"main 0;fn main 0 -;pop;done",
		"main 0;fn main 0 -;int 1;print 1",
		"main 0;fn main 0 -;jump 5;done",
		"main 0;fn main 0 -;jump 1;fn g 0 -;done",
		"main 0;fn main 0 -;text 0;print 1;done",
		"main 0;fn main 0 -;load 0;pop;done",
		"main 0;fn main 0 -;call 1;done",
		"main 0;fn main 0 -;int 1;un !;pop;done",
		"main 0;fn main 0 -;int 1;ret",
		"main 0;fn main 1 - int;done",
		"main 0;fn main 0 int;int 1;ret",
		"main 0;fn main 0 -;int 1;jump 0",
		"main 0;fn main 0 -;nop;nop",
		"main 0;fn main 0 -;done;fn unused 0 -;pop;done",
		// What would be taken out has to be safe too.
		"main 0;fn main 0 -;bool 1;false 9;done",
		"main 0;fn main 0 - int;load 1;store 1;done",
		"main 0;fn main 0 -;bool 0;false 4;pop;jump 4;done",
	} {
		c := assembled(t, text)
		errno, _ := verify.Check(c)
		if _, safe := holds(t, c); safe {
			t.Errorf("P27.1: %q is safe", text)
		}
		seen[errno] = true
	}
	for _, errno := range []api.Errno{api.ErrJump, api.ErrStack, api.ErrKind, api.ErrSlot, api.ErrEnd} {
		if !seen[errno] {
			t.Errorf("none is unsafe for %d", errno)
		}
	}
}

// P27.1: what may not be a code at all.
func TestNoCode(t *testing.T) {
	for what, change := range map[string]func(c *api.Code){
		"nothing":           func(c *api.Code) { *c = api.Code{} },
		"no instructions":   func(c *api.Code) { c.Instrs = nil },
		"no functions":      func(c *api.Code) { c.Entrys = nil },
		"no such main":      func(c *api.Code) { c.Main = 1 },
		"main below 0":      func(c *api.Code) { c.Main = -1 },
		"a start behind":    func(c *api.Code) { c.Entrys[0].Start = 1 },
		"a start below 0":   func(c *api.Code) { c.Entrys[0].Start = math.MinInt },
		"two of one start":  func(c *api.Code) { c.Entrys = append(c.Entrys, c.Entrys[0]) },
		"an unknown one":    func(c *api.Code) { c.Instrs[1].Op = 24 },
		"one below 0":       func(c *api.Code) { c.Instrs[1].Op = -1 },
		"an idle one":       func(c *api.Code) { c.Instrs = append(c.Instrs, api.Instr{Op: 99}) },
		"a jump below 0":    func(c *api.Code) { c.Instrs = append(c.Instrs, api.Instr{Op: api.InJump, A: -1}) },
		"a jump too far":    func(c *api.Code) { c.Instrs = append(c.Instrs, api.Instr{Op: api.InFalse, A: api.MaxInstrs}) },
		"the greatest jump": func(c *api.Code) { c.Instrs = append(c.Instrs, api.Instr{Op: api.InJump, A: math.MaxInt64}) },
		"a B":               func(c *api.Code) { c.Instrs[0].B = 1 },
		"a truth of 2":      func(c *api.Code) { c.Instrs = append(c.Instrs, api.Instr{Op: api.InBool, A: 2}) },
		"no operator":       func(c *api.Code) { c.Instrs = append(c.Instrs, api.Instr{Op: api.InUn, A: 3}) },
		"no name":           func(c *api.Code) { c.Entrys[0].Name = "" },
		"no sort":           func(c *api.Code) { c.Entrys[0].Sorts = []api.Sort{4} },
		"a long text":       func(c *api.Code) { c.Texts = []string{string(make([]byte, api.MaxLiteral+1))} },
		"many texts":        func(c *api.Code) { c.Texts = make([]string, api.MaxTexts+1) },
		"many functions": func(c *api.Code) {
			for f := 1; f <= api.MaxFuncs; f++ {
				c.Entrys = append(c.Entrys, api.Entry{Name: "f", Start: len(c.Instrs)})
				c.Instrs = append(c.Instrs, api.Instr{Op: api.InDone})
			}
		},
	} {
		c := mainOf(t, "nop;nop;done")
		if _, safe := holds(t, c); !safe {
			t.Fatal("P27.1: what is changed is not safe")
		}
		change(&c)
		if _, safe := holds(t, c); safe {
			t.Errorf("P27.1: %s: OK", what)
		}
	}
}

// P27.8: codes with something changed, which may be safe or not.
func TestSpoilt(t *testing.T) {
	safe, unsafe := 0, map[api.Errno]int{}
	for seed := range seeds(20000) {
		g := newGrower(seed)
		c := g.code(5 + g.Intn(20))
		for range 1 + g.Intn(2) {
			switch at := g.Intn(len(c.Instrs)); g.Intn(6) {
			case 0, 1:
				c = g.with(c)
			case 2:
				c.Instrs[at].A = pick[int64](g, 0, 1, 2, -1, int64(len(c.Instrs)), 60000, math.MaxInt64, math.MinInt64)
			case 3:
				c.Instrs[at].Op = api.Code8(g.Intn(26) - 1)
			case 4:
				c.Entrys[len(c.Entrys)-1].Start += g.Intn(3) - 1
			case 5:
				c.Instrs = c.Instrs[:max(at, 1)]
			}
		}
		errno, _ := verify.Check(c)
		if _, ok := holds(t, c); ok {
			safe++
		} else {
			unsafe[errno]++
		}
	}
	if safe < int(seeds(3000)) || len(unsafe) < 6 {
		t.Errorf("%d were safe, of the others %v", safe, unsafe)
	}
}
