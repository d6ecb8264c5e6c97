package vm

import (
	"strconv"
	"strings"
	"testing"

	"retrace/api"
	"retrace/code"
	"retrace/verify"
)

// deed is an instruction and what came of it.
type deed struct {
	op   api.Code8
	trap api.Trap
}

// P16.2, P16.3, P16.10: any state of any code, a few steps on.
func TestAnyState(t *testing.T) {
	deeds, ends := map[deed]int{}, map[bool]int{}
	for seed := range seeds(20000) {
		g := newGrower(seed)
		c, input, l := g.junk(), g.input(), g.limits()
		st := g.state(c, input, l)
		p, errno := loads(t, c, input, l, st.save())
		if errno != api.OK {
			t.Fatalf("%s: %x: %d", told(c), st.save(), errno)
		}
		for range 3 {
			running := p.st.outcome.Phase == api.Running
			var now call
			if running {
				now = p.st.frames[len(p.st.frames)-1]
			}
			p.step(t)
			if !running {
				break
			}
			if _, end := p.st.piece(now.f); now.place < end {
				deeds[deed{c.Instrs[now.place].Op, p.st.outcome.Trap}]++
			} else {
				ends[p.st.outcome.Trap == api.TrapStuck]++
			}
		}
	}
	// The test is worth something only if everything comes in it.
	for op := range api.Code8(24) {
		want := []api.Trap{api.NoTrap, api.TrapStuck}
		switch op {
		case api.InNop, api.InEmit:
			want = []api.Trap{api.NoTrap}
		case api.InBin:
			want = append(want, api.TrapDivide, api.TrapLong)
		case api.InCall:
			want = append(want, api.TrapDepth)
		case api.InNew:
			want = append(want, api.TrapIndex, api.TrapHeap)
		case api.InGet, api.InPut:
			want = append(want, api.TrapIndex)
		case api.InRead:
			want = append(want, api.TrapInput)
		}
		for _, trap := range want {
			if deeds[deed{op, trap}] < int(seeds(5)) {
				t.Errorf("%s with trap %d came but %d times", words[op], trap, deeds[deed{op, trap}])
			}
		}
	}
	if ends[true] < int(seeds(300)) || ends[false] > 0 {
		t.Errorf("behind a piece: %v", ends)
	}
}

// P16.9: any code from its beginning, by Steps, by Runs, by clones and by loads.
func TestAnyWay(t *testing.T) {
	outcomes := map[api.Outcome]int{}
	for seed := range seeds(4000) {
		g := newGrower(seed)
		c, input, l := g.safe(60), g.input(), g.limits()
		if seed%4 == 0 {
			c = g.junk()
		}
		p := runs(t, c, input, l)
		for range 40 {
			other := p.clone()
			if g.Intn(2) == 0 {
				other, _ = loads(t, c, input, l, p.m.Save())
			}
			steps := g.Intn(12)
			got, yields := p.m.Run(steps)
			var want yield
			for n := 0; n < steps && !want.yields && other.st.outcome.Phase == api.Running; n++ {
				want = other.step(t)
			}
			if want != (yield{got, yields}) {
				t.Fatalf("%s: Run(%d): %v, %v, want %v", told(c), steps, got, yields, want)
			}
			p.st = other.st
			p.agrees(t)
		}
		outcomes[p.st.outcome]++
	}
	if outcomes[api.Outcome{}] < int(seeds(50)) || outcomes[api.Outcome{Phase: api.Ended}] < int(seeds(700)) || len(outcomes) < 7 {
		t.Errorf("too few of a kind: %v", outcomes)
	}
}

// P0.5: a safe code never gets stuck, and its stacks are those that verify tells (P14.5).
func TestSafe(t *testing.T) {
	ops, traps, length := map[api.Code8]int{}, map[api.Trap]int{}, 0
	for seed := range seeds(2500) {
		g := newGrower(seed)
		c, input, l := g.safe(100), g.input(), g.roomy()
		if seed%4 == 0 {
			l = g.limits()
		}
		stacks, errno := verify.Stacks(c)
		if errno != api.OK {
			t.Fatalf("%s: %d", told(c), errno)
		}
		length += len(c.Instrs)
		m, _ := New(c, input, l)
		for range 300 {
			if m.outcome.Phase != api.Running {
				break
			}
			now := m.top()
			ops[c.Instrs[now.place].Op]++
			known := stacks[now.place]
			if known == nil || len(known) != len(now.stack) || !m.fitAll(now.stack, known) {
				t.Fatalf("%s: at %d lies %v, verify says %v", told(c), now.place, now.stack, known)
			}
			m.Step()
		}
		traps[m.outcome.Trap]++
		if m.outcome.Trap == api.TrapStuck {
			t.Fatalf("%s gets stuck: %x", told(c), m.Save())
		}
	}
	for op := range api.Code8(24) {
		if ops[op] < int(seeds(30)) {
			t.Errorf("%s was done but %d times", words[op], ops[op])
		}
	}
	if len(traps) < 5 || length < int(seeds(20000)) {
		t.Errorf("too few of a kind: %v, %d", traps, length)
	}
}

// samples is values of all kinds, with two arrays.
var samples = []api.Value{i(0), i(1), i(-1), b(0), b(1), s(""), s("ab"), r(0), r(1), r(2)}

// P16.3: each instruction with every stack of up to three of the samples.
func TestTable(t *testing.T) {
	heights := [][]api.Value{nil}
	for from, height := 0, 0; height < 3; height++ {
		end := len(heights)
		for _, below := range heights[from:end] {
			for _, v := range samples {
				heights = append(heights, append(below[:len(below):len(below)], v))
			}
		}
		from = end
	}
	c, at := tableCode(t)
	l := api.Limits{Depth: 3, Cells: 9}
	st, _ := begun(c, []int64{5}, l)
	st.arrays = []array{{api.ValInt, []api.Value{i(4), i(-4)}}, {api.ValRef, []api.Value{r(1)}}}
	st.output, st.steps = "out", 9
	below := st.frames[0]
	below.stack, below.place = []api.Value{i(8)}, 1
	for _, f := range []int{1, 2, 3} {
		first := at[f]
		slots := st.begin(f, nil).slots
		for n, in := range c.Instrs[first : first+at[4]] {
			for _, stack := range heights {
				if len(stack) == 3 && in.Op != api.InPut && in.Op != api.InPrint && in.Op != api.InCall && testing.Short() {
					continue
				}
				with := st
				with.frames = []call{below, {f: f, place: first + n, slots: slots, stack: stack}}
				m, errno := Load(c, []int64{5}, l, with.save())
				if errno != api.OK {
					t.Fatal(errno)
				}
				y, yields := m.Step()
				then, want := with.step()
				if (yield{y, yields}) != want || m.Save() != then.save() {
					t.Fatalf("%s %v with %v: %v, %x, want %v, %x", words[in.Op], in, stack, y, m.Save(), want, then.save())
				}
			}
		}
	}
}

// tableCode is a code whose functions 1, 2 and 3, with the results none, int and [int], have every instruction, with each operand that makes a difference; where each begins, and, as number 4, how many instructions each has.
func tableCode(t *testing.T) (api.Code, [5]int) {
	t.Helper()
	every := "nop;int -5;int 9223372036854775807;bool false;bool true;text 0;text 1;text 2;text 3999;pop;un -;un !;new int;new bool;new text;new [int];new [[[text]]];get;put;len;str;print 1;print 2;print 3;print 4;read;emit 1;emit 40000;tell 7;show 1 0;show 2 3;show 3 4;show 4 249;"
	for _, op := range strings.Fields("+ - * / % == != < <= > >=") {
		every += "bin " + op + ";"
	}
	for n := range 5 {
		slot := strconv.Itoa(n)
		every += "load " + slot + ";store " + slot + ";"
	}
	every += "load 249;store 249;call 1;call 2;call 4;call 5;call 6;call 7;call 59;ret;done;"
	count := strings.Count(every, ";") + 12
	text := "main 0;pool \"\";pool \"xy\";fn main 0 -;nop;done;"
	var at [5]int
	for n, result := range []string{"-", "int", "[int]"} {
		first := 2 + n*count
		at[n+1] = first
		text += "fn f 0 " + result + " int bool text [int];" + every
		for _, to := range []int{0, first - 1, first, first + count - 1, first + count, 59999} {
			text += "jump " + strconv.Itoa(to) + ";false " + strconv.Itoa(to) + ";"
		}
	}
	at[4] = count
	text += "fn one 1 - [[bool]] int;done;fn two 2 bool int bool;jump 0;fn three 3 - int text bool int;done"
	c, errno, line := code.Assemble(strings.ReplaceAll(text, ";", "\n"))
	if errno != api.OK {
		t.Fatalf("%d at %d", errno, line)
	}
	return c, at
}
