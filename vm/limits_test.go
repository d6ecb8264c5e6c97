package vm

import (
	"slices"
	"strconv"
	"strings"
	"testing"

	"retrace/api"
)

func repeated(instr string, count int) string { return strings.Repeat(instr+";", count) }

func ended() api.Outcome { return api.Outcome{Phase: api.Ended} }

func trapped(trap api.Trap) api.Outcome { return api.Outcome{Phase: api.Trapped, Trap: trap} }

// comes runs a code by Runs alone, and asks for its end.
func comes(t *testing.T, what string, c api.Code, input []int64, l api.Limits, want api.Outcome, steps int) *Machine {
	t.Helper()
	m, errno := New(c, input, l)
	if errno != api.OK {
		t.Fatalf("%s: %d", what, errno)
	}
	for range 5 {
		m.Run(1 << 30)
	}
	if run := m.Result(); run.Outcome != want || run.Steps != steps {
		t.Errorf("%s: %v behind %d steps, want %v, %d", what, run.Outcome, run.Steps, want, steps)
	}
	again, errno := Load(c, input, l, m.Save())
	if errno != api.OK || again.Save() != m.Save() || m.Clone().Save() != m.Save() {
		t.Errorf("%s: Load of its end: %d", what, errno)
	}
	return m
}

// P16.3: a stack as high as may be, and one more, by each instruction that pushes.
func TestHeights(t *testing.T) {
	wide := api.Limits{Depth: 2, Cells: 500}
	for _, word := range []string{"int 7", "bool true", "text 0", "load 0", "read"} {
		for _, height := range []int{399, 400, 401, 402} {
			c := assembled(t, "main 0;pool \"\";fn main 0 - int;"+repeated(word, height)+"done")
			want, steps := ended(), height+1
			if height > 400 {
				want, steps = trapped(api.TrapStuck), 401
			}
			m := comes(t, word, c, make([]int64, 500), wide, want, steps)
			if read := m.Result().Input; word == "read" && read != min(height, 400) {
				t.Errorf("%d numbers were read", read)
			}
		}
	}
	// What takes as much as it gives can be done at the top, each frame has a stack of its own, and what a call gives back needs room.
	full := repeated("int 1", 400)
	for _, word := range []string{"nop", "un -", "str", "new int", "tell 1", "show 1 0", "emit 1", "pop", "print 16", "bin +", "store 0", "jump 401"} {
		c := assembled(t, "main 0;fn main 0 - int;"+full+word+";done")
		comes(t, word, c, nil, wide, ended(), 402)
	}
	comes(t, "a call", assembled(t, "main 0;fn main 0 -;"+full+"call 1;done;fn f 0 -;"+full+"done"), nil, wide, ended(), 400+1+401+1)
	comes(t, "a call with a result", assembled(t, "main 0;fn main 0 -;"+full+"call 1;done;fn f 0 int;"+full+"ret"), nil, wide, trapped(api.TrapStuck), 400+1+401)
	comes(t, "one value less", assembled(t, "main 0;fn main 0 -;"+full+"pop;call 1;done;fn f 0 int;"+full+"ret"), nil, wide, ended(), 401+1+401+1)
	comes(t, "an argument", assembled(t, "main 0;fn main 0 -;"+full+"call 1;done;fn f 1 int int;load 0;ret"), nil, wide, ended(), 400+1+2+1)
}

// P16.3, P16.10: frames as many as may be, and one more.
func TestDepths(t *testing.T) {
	// f calls itself as often as main says, and counts on the way back.
	c := func(calls int) api.Code {
		return assembled(t, "main 0;fn main 0 -;int "+strconv.Itoa(calls)+";call 1;print 1;done;fn f 1 int int;load 0;int 1;bin <=;false 10;load 0;ret;load 0;int 1;bin -;call 1;int 1;bin +;ret")
	}
	for _, depth := range []int{1, 2, 3, 10, 999, 1000} {
		if depth > 1 {
			m := comes(t, "just so many", c(depth-1), nil, api.Limits{Depth: depth}, ended(), 2+(depth-2)*8+6+(depth-2)*3+2)
			if got := m.Result().Output; got != strconv.Itoa(depth-1)+"\n" {
				t.Errorf("depth %d: %q", depth, got)
			}
		}
		m := comes(t, "one more", c(depth), nil, api.Limits{Depth: depth}, trapped(api.TrapDepth), 2+(depth-1)*8)
		if m.Depth() != depth {
			t.Errorf("%d frames, want %d", m.Depth(), depth)
		}
	}
}

// P16.3: cells as many as may be, and one more.
func TestCells(t *testing.T) {
	for _, cells := range []int{0, 1, 2, 99999, 100000} {
		for _, sort := range []string{"int", "bool", "text", "[[text]]"} {
			news := func(n int) api.Code {
				return assembled(t, "main 0;fn main 0 -;int "+strconv.Itoa(n)+";new "+sort+";len;print 1;done")
			}
			if cells > 0 {
				m := comes(t, "just so many", news(cells-1), nil, api.Limits{Depth: 1, Cells: cells}, ended(), 5)
				if run := m.Result(); run.Output != strconv.Itoa(cells-1)+"\n" || len(run.Arrays) != 2 || len(run.Arrays[1]) != cells-1 {
					t.Errorf("%d cells: %q", cells, run.Output)
				}
			}
			comes(t, "one more", news(cells), nil, api.Limits{Depth: 1, Cells: cells}, trapped(api.TrapHeap), 2)
		}
	}
	one := assembled(t, "main 0;fn main 0 -;int 0;new int;pop;jump 0")
	m := comes(t, "one by one", one, nil, api.Limits{Depth: 1, Cells: 1000}, trapped(api.TrapHeap), 4002)
	if len(m.Result().Arrays) != 1001 {
		t.Errorf("%d arrays", len(m.Result().Arrays))
	}
}

// P16.3, P16.10: an input as long as may be.
func TestInputs(t *testing.T) {
	c := assembled(t, "main 0;fn main 0 -;read;print 1;jump 0")
	for _, count := range []int{0, 1, 2, 999, 1000} {
		input, want := make([]int64, count), ""
		for n := range input {
			input[n] = int64(n * n)
			want += strconv.Itoa(n*n) + "\n"
		}
		m := comes(t, "numbers", c, input, api.Limits{Depth: 1}, trapped(api.TrapInput), 3*count+1)
		if run := m.Result(); run.Input != count || run.Output != want {
			t.Errorf("%d numbers: %d read, %q", count, run.Input, run.Output)
		}
	}
}

// P16.3: texts as long as may be, and one byte more.
func TestTexts(t *testing.T) {
	for _, length := range []int{200, 255, 256, 257, 400} {
		c := assembled(t, "main 0;pool \""+strings.Repeat("a", 200)+"\";pool \""+strings.Repeat("b", length-200)+"\";fn main 0 - text;text 0;text 1;bin +;store 0;load 0;len;load 0;print 2;done")
		if length > 256 {
			comes(t, "too long", c, nil, api.Limits{Depth: 1}, trapped(api.TrapLong), 3)
			continue
		}
		m := comes(t, "long", c, nil, api.Limits{Depth: 1}, ended(), 9)
		if want := strconv.Itoa(length) + " " + strings.Repeat("a", 200) + strings.Repeat("b", length-200) + "\n"; m.Result().Output != want {
			t.Errorf("%q", m.Result().Output)
		}
	}
}

// P16.3: the last text, slot, function and instruction that may be named, and the one behind it.
func TestNamed(t *testing.T) {
	c := assembled(t, "main 0;fn main 0 - "+repeatedSorts(249)+"bool;text 3999;print 1;load 249;false 4;show 40000 249;load 248;store 248;call 59;done")
	c.Texts = make([]string, 4000)
	c.Texts[3999] = "last"
	for f := 1; f < 60; f++ {
		c.Entrys = append(c.Entrys, api.Entry{Name: "f", Start: len(c.Instrs)})
		c.Instrs = append(c.Instrs, api.Instr{Op: api.InDone})
	}
	l := api.Limits{Depth: 2}
	if m := comes(t, "all there", c, nil, l, ended(), 10); m.Result().Output != "last\n" {
		t.Errorf("%q", m.Result().Output)
	}
	less := c
	less.Texts = c.Texts[:3999]
	comes(t, "a text less", less, nil, l, trapped(api.TrapStuck), 1)
	less = c
	less.Entrys = slices.Clone(c.Entrys)
	less.Entrys[0].Sorts = c.Entrys[0].Sorts[:249]
	comes(t, "a slot less", less, nil, l, trapped(api.TrapStuck), 3)
	less.Entrys = c.Entrys[:59]
	less.Instrs = c.Instrs[:len(c.Instrs)-1]
	comes(t, "a function less", less, nil, l, trapped(api.TrapStuck), 8)
}

func repeatedSorts(count int) string { return strings.Repeat("int ", count) }

// P16.3: codes as long as may be: each jump leads to the next or to the last instruction of its piece, not one further.
func TestLong(t *testing.T) {
	const all = 60000
	instrs := slices.Repeat([]api.Instr{{Op: api.InNop}}, all)
	instrs[0] = api.Instr{Op: api.InJump, A: all - 1}
	instrs[all-1] = api.Instr{Op: api.InDone}
	c := api.Code{Instrs: instrs, Entrys: []api.Entry{{Name: "main"}}}
	comes(t, "to the end", c, nil, api.Limits{Depth: 1}, ended(), 2)
	c.Instrs[0].Op = api.InNop
	c.Instrs[0].A = 0
	comes(t, "all through", c, nil, api.Limits{Depth: 1}, ended(), all)
	c.Instrs[all-1].Op = api.InNop
	comes(t, "out of it", c, nil, api.Limits{Depth: 1}, trapped(api.TrapStuck), all+1)
	c.Instrs[0] = api.Instr{Op: api.InJump, A: all - 2}
	c.Entrys = append(c.Entrys, api.Entry{Name: "f", Start: all - 1})
	comes(t, "into the next function", c, nil, api.Limits{Depth: 1}, trapped(api.TrapStuck), 3)
	c.Instrs[0].A++
	comes(t, "to the next function", c, nil, api.Limits{Depth: 1}, trapped(api.TrapStuck), 1)
}

// P16.2, P16.3: every place of a jump, from every function.
func TestPieces(t *testing.T) {
	for f, piece := range [][2]int{{0, 3}, {3, 4}, {4, 8}} {
		for to := range 10 {
			c := assembled(t, "main 1;fn f 0 -;nop;nop;nop;fn g 0 -;nop;fn h 0 -;nop;nop;nop;nop")
			c.Main = f
			c.Instrs[piece[0]] = api.Instr{Op: api.InJump, A: int64(to)}
			p := runs(t, c, nil, api.Limits{Depth: 1})
			p.step(t)
			within := to >= piece[0] && to < piece[1]
			if (p.m.Result().Outcome == api.Outcome{}) != within {
				t.Errorf("from %d to %d: %v", piece[0], to, p.m.Result().Outcome)
			}
			p.run(t, 10)
		}
	}
}
