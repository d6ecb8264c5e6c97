package vm

import (
	"math"
	"math/rand"
	"strings"
	"testing"

	"retrace/api"
)

func zeros(n int) string { return strings.Repeat("\x00", n) }

// eight is a number in eight bytes.
func eight(n uint64) string {
	var text []byte
	for shift := 56; shift >= 0; shift -= 8 {
		text = append(text, byte(n>>shift))
	}
	return string(text)
}

// P16.6: a state with all kinds of values, byte by byte.
func TestSavedBytes(t *testing.T) {
	c := assembled(t, "main 1;pool \"ab\\xff\";fn f 1 bool bool text;load 0;ret;fn main 0 - int bool text [int];int -2;store 0;bool true;store 1;text 0;store 2;int 2;new int;store 3;read;print 1;load 3;load 1;text 0;load 1;call 0;pop;done")
	m, _ := New(c, []int64{math.MinInt64, 6}, api.Limits{Depth: 2, Cells: 3})
	if m.Run(16); m.Depth() != 2 {
		t.Fatal(m.Result())
	}
	want := "V\x00\x00" + eight(16) + eight(1) +
		"\x00\x00\x00\x02" +
		"\x01\x00\x00\x00\x12" + // behind the call
		"\x01\xff\xff\xff\xff\xff\xff\xff\xfe" + "\x02\x01" + "\x03\x00\x03ab\xff" + "\x04" + eight(1) +
		"\x00\x03" + "\x04" + eight(1) + "\x02\x01" + "\x03\x00\x03ab\xff" +
		"\x00\x00\x00\x00\x00" + "\x02\x01" + "\x03\x00\x00" + "\x00\x00" +
		eight(21) + "-9223372036854775808\n" +
		eight(34) + "H" + eight(1) + "\x01" + eight(2) + eight(0) + eight(0)
	if got := m.Save(); got != want {
		t.Fatalf("Save is %x, want %x", got, want)
	}
	p, errno := loads(t, c, []int64{math.MinInt64, 6}, api.Limits{Depth: 2, Cells: 3}, want)
	if errno != api.OK {
		t.Fatal(errno)
	}
	p.run(t, 100)
	want = "V\x01\x00" + eight(20) + eight(1) + zeros(4) + eight(21) + "-9223372036854775808\n" + eight(34) + "H" + eight(1) + "\x01" + eight(2) + eight(0) + eight(0)
	if got := p.m.Save(); got != want {
		t.Errorf("at the end Save is %x, want %x", got, want)
	}
	loads(t, c, []int64{math.MinInt64}, api.Limits{Depth: 1, Cells: 3}, want)
}

// P16.6: long texts, high stacks, far places, long outputs: numbers that need all their bytes.
func TestSavedNumbers(t *testing.T) {
	long := strings.Repeat("0123456789abcdef", 12)
	c := assembled(t, "main 0;pool \""+long+"\";fn main 0 - text;"+strings.Repeat("nop;", 300)+"text 0;str;int 64;str;bin +;tell 1;store 0;"+strings.Repeat("load 0;", 300)+strings.Repeat("print 16;", 18)+"done")
	p := runs(t, c, nil, api.Limits{Depth: 1})
	for p.st.outcome.Phase == api.Running {
		p.m.Step()
		p.st, _ = p.st.step()
		if p.st.steps%50 == 0 || p.st.steps > 600 {
			p.agrees(t)
			loads(t, c, nil, api.Limits{Depth: 1}, p.m.Save())
		}
	}
	p.agrees(t)
	if len(p.st.output) != 18*16*(192+2+1) {
		t.Errorf("%d bytes of output", len(p.st.output))
	}
}

// tried loads bytes, and goes on for a few steps with what they make.
func tried(t *testing.T, c api.Code, input []int64, l api.Limits, text string) api.Errno {
	t.Helper()
	p, errno := loads(t, c, input, l, text)
	if errno == api.OK {
		p.run(t, 3)
	}
	return errno
}

// P16.7: each byte changed, left out and put in, and each beginning, of the bytes of states.
func TestLoadChangedBytes(t *testing.T) {
	taken := map[api.Errno]int{}
	for seed := range seeds(80) {
		g := newGrower(seed)
		c, input, l := g.junk(), g.input(), g.limits()
		saved := g.state(c, input, l).save()
		if len(saved) > 600 {
			continue
		}
		for at := range len(saved) {
			taken[tried(t, c, input, l, saved[:at])]++
			taken[tried(t, c, input, l, saved[:at]+saved[at+1:])]++
			for _, one := range []byte{0, 1, 2, 3, 4, 5, 7, 8, 64, 128, 255, saved[at] + 1, saved[at] - 1} {
				taken[tried(t, c, input, l, saved[:at]+string([]byte{one})+saved[at+1:])]++
				taken[tried(t, c, input, l, saved[:at]+string([]byte{one})+saved[at:])]++
			}
		}
		for _, more := range []string{"\x00", "V", "H", saved, zeros(9)} {
			taken[tried(t, c, input, l, saved+more)]++
			taken[tried(t, c, input, l, more+saved)]++
		}
	}
	if taken[api.OK] < int(seeds(4000)) || taken[api.ErrSave] < int(seeds(40000)) {
		t.Errorf("too few of a kind: %v", taken)
	}
}

// P16.7: states with one thing that may not be, or that just may.
func TestLoadSpoilt(t *testing.T) {
	taken := map[api.Errno]int{}
	for seed := range seeds(12000) {
		g := newGrower(seed)
		c, input, l := g.junk(), g.input(), g.limits()
		st := g.state(c, input, l)
		g.spoil(&st)
		if g.Intn(3) == 0 {
			g.spoil(&st)
		}
		taken[tried(t, c, input, l, st.save())]++
		// The same bytes may be a state with other limits, another input, or of another code.
		l.Depth, l.Cells = 1+g.Intn(4), g.Intn(20)
		taken[tried(t, c, input, l, st.save())]++
		taken[tried(t, c, input[:g.Intn(len(input)+1)], l, st.save())]++
		taken[tried(t, g.junk(), input, l, st.save())]++
	}
	if taken[api.OK] < int(seeds(6000)) || taken[api.ErrSave] < int(seeds(12000)) {
		t.Errorf("too few of a kind: %v", taken)
	}
}

// spoil changes something of a state, which then may be or not.
func (g grower) spoil(st *state) {
	value := func() api.Value {
		return pick(g, []api.Value{i(5), b(1), s("x"), r(0), r(int64(len(st.arrays))), b(2), r(int64(len(st.arrays)) + 1), r(-1), s(strings.Repeat("q", 256)), s(strings.Repeat("q", 257)), s(strings.Repeat("q", 600)), {Kind: 0}, {Kind: 5}, b(255)})
	}
	change := func(list []api.Value) {
		if len(list) > 0 {
			list[g.Intn(len(list))] = value()
		}
	}
	var f *call
	if len(st.frames) > 0 {
		f = &st.frames[g.Intn(len(st.frames))]
	}
	switch n := g.Intn(12); {
	case n == 0:
		st.outcome = api.Outcome{Phase: api.Phase(g.Intn(4)), Trap: api.Trap(g.Intn(9))}
	case n == 1:
		st.steps = pick(g, []uint64{0, 1 << 62, 1<<62 + 1, 1<<62 - 1, 1 << 63, math.MaxUint64})
	case n == 2:
		st.read = pick(g, []int{len(st.input), len(st.input) + 1, 0, -1, math.MinInt64})
	case n == 3 && f != nil:
		st.frames = st.frames[:g.Intn(len(st.frames))]
	case n == 4 && f != nil:
		st.frames = append(st.frames, st.frames...)
	case n == 5 && f != nil:
		f.f = g.Intn(len(st.c.Entrys) + 1)
	case n == 6 && f != nil && f.f < len(st.c.Entrys):
		first, end := st.piece(f.f)
		f.place = pick(g, []int{first, end, end - 1, end + 1, first - 1, 0, len(st.c.Instrs), -1})
	case n == 7 && f != nil:
		change(f.slots)
	case n == 8 && f != nil:
		change(f.stack)
	case n == 9 && f != nil:
		f.stack = g.values(pick(g, []int{400, 401, 399, 1000}), len(st.arrays))
	case n == 10 && len(st.arrays) > 0:
		change(st.arrays[g.Intn(len(st.arrays))].elements)
	case n == 11 && len(st.arrays) > 0:
		st.arrays = st.arrays[:len(st.arrays)-1]
	}
}

// P16.7: junk, and numbers of all sizes with too few bytes behind them.
func TestLoadJunk(t *testing.T) {
	c := assembled(t, "main 0;pool \"x\";fn main 0 - text [int];call 1;done;fn f 0 int int;int 1;ret")
	l := api.Limits{Depth: 3, Cells: 10}
	random := rand.New(rand.NewSource(16))
	for range int(seeds(20000)) {
		junk := make([]byte, random.Intn(80))
		for n := range junk {
			junk[n] = byte(random.Intn(1 + random.Intn(256)))
		}
		tried(t, c, []int64{1}, l, string(junk))
		tried(t, c, []int64{1}, l, "V"+zeros(18)+string(junk))
		tried(t, c, []int64{1}, l, "V\x01"+zeros(17)+zeros(4)+string(junk))
	}
	for _, n := range []uint64{0, 1, 2, 8, 9, 10, 100, 1 << 16, 1 << 31, 1 << 32, 1<<62 - 1, 1 << 62, 1<<63 - 1, 1 << 63, 1<<63 + 9, math.MaxUint64 - 8, math.MaxUint64} {
		ended := "V\x01" + zeros(17) + zeros(4)
		for _, text := range []string{
			ended + eight(n), ended + eight(n) + eight(9) + "H" + zeros(8), ended + zeros(8) + eight(n) + "H" + zeros(8), ended + zeros(8) + eight(9) + "H" + eight(n),
			"V\x00\x00" + eight(n) + zeros(8) + "\x00\x00\x00\x01", "V\x01\x00" + eight(n) + zeros(8) + zeros(4) + zeros(8) + eight(9) + "H" + zeros(8), "V\x01\x00" + zeros(8) + eight(n) + zeros(4) + zeros(8) + eight(9) + "H" + zeros(8),
			"V\x00\x00" + zeros(16) + eight(n)[4:], "V\x01\x00" + zeros(16) + eight(n)[4:] + zeros(8) + eight(9) + "H" + zeros(8),
		} {
			tried(t, c, []int64{1}, l, text)
		}
	}
}

// P16.7: a state is loaded with just as many frames, cells and numbers as it has.
func TestLoadLimits(t *testing.T) {
	c := assembled(t, "main 0;fn main 0 -;read;read;pop;new int;call 0;done")
	input := []int64{3, 9, 3, 9, 3, 9, 3, 9}
	p := runs(t, c, input, api.Limits{Depth: 4, Cells: 16})
	p.run(t, 15)
	if p.m.Depth() != 4 || p.m.Result().Input != 6 || len(p.m.Result().Arrays) != 4 {
		t.Fatal(p.m.Result())
	}
	saved := p.m.Save()
	for depth := 1; depth <= 6; depth++ {
		for cells := 0; cells <= 20; cells++ {
			for numbers := range len(input) + 1 {
				errno := tried(t, c, input[:numbers], api.Limits{Depth: depth, Cells: cells}, saved)
				if (errno == api.OK) != (depth >= 4 && cells >= 12 && numbers >= 6) {
					t.Errorf("depth %d, %d cells, %d numbers: %d", depth, cells, numbers, errno)
				}
			}
		}
	}
}

// P16.2, P16.7: a count of 2^62 stays, and all else goes on.
func TestMostSteps(t *testing.T) {
	c := assembled(t, "main 0;fn main 0 -;emit 1;int 5;print 1;jump 0")
	for _, steps := range []uint64{1<<62 - 3, 1<<62 - 1, 1 << 62} {
		st, _ := begun(c, nil, api.Limits{Depth: 1})
		st.steps = steps
		p, errno := loads(t, c, nil, api.Limits{Depth: 1}, st.save())
		if errno != api.OK {
			t.Fatal(errno)
		}
		p.run(t, 9)
		if p.m.Steps() != 1<<62 || p.m.Result().Output != "5\n5\n" {
			t.Errorf("from %d on: %d, %v", steps, p.m.Steps(), p.m.Result())
		}
	}
}
