package code

import (
	"math"
	"slices"
	"strconv"
	"strings"
	"testing"

	"retrace/api"
)

// refuses wants one error of all that takes a code.
func refuses(t *testing.T, c api.Code, want api.Errno) {
	t.Helper()
	if errno := Valid(c); errno != want {
		t.Errorf("Valid: %d, want %d", errno, want)
	}
	if b, errno := Encode(c); errno != want || b != "" {
		t.Errorf("Encode: %q, %d, want %d", b, errno, want)
	}
	if text, errno := Print(c); errno != want || text != "" {
		t.Errorf("Print: %q, %d, want %d", text, errno, want)
	}
}

// wrongAt wants Assemble to tell that line.
func wrongAt(t *testing.T, text string, want int) {
	t.Helper()
	c, errno, line := Assemble(text)
	if errno != api.ErrLine || line != want || !isZero(c) {
		t.Errorf("Assemble(%.200q) = %.200v, %d, %d, want line %d", text, c, errno, line, want)
	}
}

// takes wants Assemble to answer a code that may be, and gives it.
func takes(t *testing.T, text string) api.Code {
	t.Helper()
	c, errno, line := Assemble(text)
	if errno != api.OK || line != 0 || Valid(c) != api.OK {
		t.Errorf("Assemble(%.200q) = %d, %d", text, errno, line)
	}
	return c
}

// changed is the chapter's example with something changed.
func changed(change func(c *api.Code)) api.Code {
	c := example()
	change(&c)
	return c
}

// P13.1: each thing that is asked of a code, at its edges.
func TestValid(t *testing.T) {
	entry := func(change func(e *api.Entry)) api.Code {
		return changed(func(c *api.Code) { change(&c.Entrys[0]) })
	}
	second := func(start int) api.Code {
		return changed(func(c *api.Code) { c.Entrys = append(c.Entrys, api.Entry{Name: "f", Start: start}) })
	}
	sorts := func(count, params int) api.Code {
		return entry(func(e *api.Entry) { e.Sorts, e.Params = slices.Repeat([]api.Sort{1}, count), params })
	}
	name := func(name string) api.Code { return entry(func(e *api.Entry) { e.Name = name }) }
	for i, c := range []struct {
		code api.Code
		fine bool
	}{
		{api.Code{}, false}, {changed(func(c *api.Code) { c.Entrys = nil }), false}, {changed(func(c *api.Code) { c.Instrs = nil }), false},
		{changed(func(c *api.Code) { c.Texts = nil }), true},
		{changed(func(c *api.Code) { c.Main = -1 }), false}, {changed(func(c *api.Code) { c.Main = 1 }), false}, {changed(func(c *api.Code) { c.Main = math.MinInt64 }), false},
		{second(5), true}, {second(1), true}, {second(0), false}, {second(-1), false}, {second(6), false}, {second(math.MaxInt64), false}, {second(math.MinInt64), false},
		{entry(func(e *api.Entry) { e.Start = 1 }), false}, {entry(func(e *api.Entry) { e.Start = -1 }), false},
		{changed(func(c *api.Code) {
			c.Entrys = append(c.Entrys, api.Entry{Name: "f", Start: 3}, api.Entry{Name: "g", Start: 3})
		}), false},
		{changed(func(c *api.Code) {
			c.Entrys = append(c.Entrys, api.Entry{Name: "f", Start: 3}, api.Entry{Name: "g", Start: 2})
		}), false},
		{changed(func(c *api.Code) {
			c.Entrys = append(c.Entrys, api.Entry{Name: "main", Start: 3}, api.Entry{Name: "main", Start: 4})
		}), true},
		{sorts(0, 0), true}, {sorts(0, 1), false}, {sorts(250, 8), true}, {sorts(251, 8), false}, {sorts(251, 0), false}, {sorts(250, 9), false}, {sorts(8, 8), true}, {sorts(7, 8), false}, {sorts(3, -1), false}, {sorts(3, math.MinInt64), false},
		{name(""), false}, {name("a"), true}, {name("z"), true}, {name("A"), true}, {name("Z"), true}, {name("_"), false}, {name("_a"), false}, {name("0a"), false}, {name("a_"), true}, {name("a09"), true}, {name("aZ"), true},
		{name("a b"), false}, {name("a-"), false}, {name("a/"), false}, {name("a:"), false}, {name("a@"), false}, {name("a["), false}, {name("a`"), false}, {name("a{"), false}, {name("aé"), false}, {name("a\x00"), false}, {name("@"), false}, {name("["), false}, {name("`"), false}, {name("{"), false},
		{name("while"), true}, {name("fn"), true}, {name(strings.Repeat("n", 24)), true}, {name(strings.Repeat("n", 25)), false},
		{changed(func(c *api.Code) { c.Texts[0] = strings.Repeat("x", 200) }), true}, {changed(func(c *api.Code) { c.Texts[0] = strings.Repeat("x", 201) }), false}, {changed(func(c *api.Code) { c.Texts[0] = "\x00\xff" }), true},
		{changed(func(c *api.Code) { c.Texts = append(c.Texts, "", strings.Repeat("x", 201)) }), false},
	} {
		want := api.ErrCode
		if c.fine {
			want = api.OK
		}
		if errno := Valid(c.code); errno != want {
			t.Errorf("row %d: %d, want %d", i, errno, want)
		}
		lays(t, c.code)
	}
}

// P13.1: the sorts of slots, of results and of elements.
func TestSorts(t *testing.T) {
	for _, sort := range []api.Sort{math.MinInt64, -4, -1, 0, 1, 2, 3, 4, 5, 6, 7, 8, 9, 10, 11, 12, 13, 14, 15, 16, 17, 18, 19, 20, 21, 23, 256 + 1, math.MaxInt64} {
		fine := sort >= 1 && sort <= 19 && sort%4 != 0
		for _, c := range []struct {
			code api.Code
			fine bool
		}{
			{changed(func(c *api.Code) { c.Entrys[0].Sorts[0] = sort }), fine},
			{changed(func(c *api.Code) { c.Entrys[0].Result = sort }), fine || sort == 0},
			{changed(func(c *api.Code) { c.Instrs[1].A = int64(sort) }), fine && sort <= 15},
		} {
			if errno := Valid(c.code); (errno == api.OK) != c.fine {
				t.Errorf("the sort %d: %d", sort, errno)
			}
			lays(t, c.code)
		}
	}
}

// P13.1: each instruction's operands at and beyond their limits, in every place of a code.
func TestOperands(t *testing.T) {
	edges := []int64{math.MinInt64, -1, 0, 1, 2, 3, 13, 14, 15, 16, 17, 59, 60, 249, 250, 255, 256, 3999, 4000, 40000, 40001, 59999, 60000, 65536, 1 << 32, math.MaxInt64}
	for op := api.Code8(-2); op < 27; op++ {
		r, known := rowOf(op)
		for _, a := range edges {
			for _, b := range edges {
				in := api.Instr{Op: op, A: a, B: b}
				c := changed(func(c *api.Code) { c.Instrs[int(a+b)&3] = in })
				if errno := Valid(c); (errno == api.OK) != (known && r.has(in)) {
					t.Fatalf("%v: %d", in, errno)
				}
				if a == b || b == 0 {
					lays(t, c)
				}
			}
		}
	}
	for _, op := range []api.Code8{math.MinInt64, math.MaxInt64, 256, 1 << 32} {
		refuses(t, changed(func(c *api.Code) { c.Instrs[5].Op = op }), api.ErrCode)
	}
}

// P13.1, P13.2, P13.4: as much as may be of everything, and one more; too much comes ahead of what else is wrong.
func TestMost(t *testing.T) {
	full := api.Code{Main: 59, Instrs: make([]api.Instr, 60000), Texts: slices.Repeat([]string{strings.Repeat("\x80", 200)}, 4000)}
	for i := range full.Instrs {
		full.Instrs[i] = api.Instr{Op: api.InShow, A: 40000, B: int64(i % 250)}
	}
	for f := range 60 {
		full.Entrys = append(full.Entrys, api.Entry{Name: strings.Repeat("f", 24), Start: 59940*min(f, 1) + f, Params: 8, Sorts: slices.Repeat([]api.Sort{19}, 250), Result: 19})
	}
	lays(t, full)
	if Valid(full) != api.OK {
		t.Fatalf("the fullest code: %d", Valid(full))
	}
	b, _ := Encode(full)
	reads(t, b)
	text, _ := Print(full)
	assembles(t, text)
	if back, errno, _ := Assemble(text); errno != api.OK || !same(back, full) {
		t.Errorf("the fullest code is assembled to another one: %d", errno)
	}
	for _, spoil := range []func(c *api.Code){
		func(c *api.Code) { c.Entrys = append(slices.Clone(c.Entrys), c.Entrys[0]) },
		func(c *api.Code) { c.Instrs = append(slices.Clone(c.Instrs), api.Instr{}) },
		func(c *api.Code) { c.Texts = append(slices.Clone(c.Texts), "") },
		func(c *api.Code) { c.Entrys, c.Main = make([]api.Entry, 61), -1 },
		func(c *api.Code) { c.Instrs, c.Main = make([]api.Instr, 60001), -1 },
		func(c *api.Code) { c.Texts, c.Entrys = make([]string, 4001), nil },
	} {
		c := full
		spoil(&c)
		refuses(t, c, api.ErrSize)
	}
	wrongAt(t, text+"nop", strings.Count(text, "\n")+1)
}

// withCount is the example's bytes with another count in the place of one, and what follows from it left as it is.
func withCount(from, to int, count string) string {
	return exampleBytes[:from] + count + exampleBytes[to:]
}

// P13.3: counts that are too great, with and without bytes for them.
func TestCounts(t *testing.T) {
	instrs := strings.Index(exampleBytes, "\x00\x00\x00\x06")
	texts := strings.Index(exampleBytes, "\x00\x01\x02a")
	for _, b := range []string{
		withCount(2, 3, "\x00"), withCount(2, 3, "\x02"), withCount(2, 3, "\x3c"), withCount(2, 3, "\x3d"), withCount(2, 3, "\xff"),
		withCount(texts, texts+2, "\x00\x00"), withCount(texts, texts+2, "\x00\x02"), withCount(texts, texts+2, "\x0f\xa0"), withCount(texts, texts+2, "\xff\xff"),
		withCount(instrs, instrs+4, "\x00\x00\x00\x05"), withCount(instrs, instrs+4, "\x00\x00\x00\x07"), withCount(instrs, instrs+4, "\x00\x00\xea\x60"), withCount(instrs, instrs+4, "\x00\x00\xea\x61"), withCount(instrs, instrs+4, "\x80\x00\x00\x00"), withCount(instrs, instrs+4, "\xff\xff\xff\xff"),
	} {
		for _, more := range []string{"", "\x00", strings.Repeat("\x00", 300000)} {
			// Of these only seven instructions are a code's: the last one is the byte more.
			if reads(t, b+more) == api.OK != (b[instrs+3] == 7 && more == "\x00") {
				t.Errorf("%x and %d bytes", b, len(more))
			}
		}
	}
	// What stands behind a count that is too great is not read as if it were 0.
	for _, count := range []string{"\x0f\xa1", "\xff\xff"} {
		if b := withCount(texts, instrs, count); reads(t, b) != api.ErrCode {
			t.Errorf("%x", b)
		}
	}
	for _, count := range []string{"\xfb", "\xff"} {
		if b := "C\x00\x01\x01f\x00\x00\x00\x00\x00" + count + "\x00\x00\x00\x00\x00\x00\x01\x00"; reads(t, b) != api.ErrCode {
			t.Errorf("%x", b)
		}
	}
	// As many as may be, and one more, all of them there.
	head := exampleBytes[:instrs]
	for count, want := range map[int]api.Errno{1: api.OK, 60000: api.OK, 60001: api.ErrCode} {
		b := head + string([]byte{0, 0, byte(count >> 8), byte(count)}) + strings.Repeat("\x00", count)
		if _, errno := Decode(b); errno != want {
			t.Errorf("%d instructions: %d, want %d", count, errno, want)
		}
	}
	for count, want := range map[int]api.Errno{0: api.OK, 4000: api.OK, 4001: api.ErrCode} {
		b := exampleBytes[:texts] + string([]byte{byte(count >> 8), byte(count)}) + strings.Repeat("\x00", count) + exampleBytes[instrs:]
		if _, errno := Decode(b); errno != want {
			t.Errorf("%d texts: %d, want %d", count, errno, want)
		}
	}
	for _, count := range []int{0, 250, 251, 255} {
		b := "C\x00\x01\x01f\x00\x00\x00\x00\x00" + string([]byte{byte(count)}) + strings.Repeat("\x01", count) + "\x00\x00\x00\x00\x00\x00\x01\x00"
		if reads(t, b) == api.OK != (count <= 250) {
			t.Errorf("%d slots", count)
		}
	}
	for _, count := range []int{0, 1, 24, 25, 255} {
		b := "C\x00\x01" + string([]byte{byte(count)}) + strings.Repeat("f", count) + "\x00\x00\x00\x00\x00\x00\x00\x00\x00\x00\x00\x00\x01\x00"
		if reads(t, b) == api.OK != (count >= 1 && count <= 24) {
			t.Errorf("a name of %d bytes", count)
		}
	}
	for _, count := range []int{0, 1, 200, 201, 255} {
		b := "C\x00\x01\x01f\x00\x00\x00\x00\x00\x00\x00\x00\x01" + string([]byte{byte(count)}) + strings.Repeat("\xff", count) + "\x00\x00\x00\x01\x00"
		if reads(t, b) == api.OK != (count <= 200) {
			t.Errorf("a text of %d bytes", count)
		}
	}
}

// P13.3: functions, as many as may be and one more.
func TestManyFunctions(t *testing.T) {
	for _, count := range []int{1, 2, 59, 60, 61, 255} {
		b, text := "C\x00"+string([]byte{byte(count)}), "main "+strconv.Itoa(min(count, 60)-1)+"\n"
		for f := range count {
			b += "\x01f\x00\x00\x00" + string([]byte{byte(f)}) + "\x00\x00\x00"
			text += "fn f 0 -\nnop\n"
		}
		b += "\x00\x00\x00\x00\x00" + string([]byte{byte(count)}) + strings.Repeat("\x00", count)
		if reads(t, b) == api.OK != (count <= 60) {
			t.Errorf("%d functions", count)
		}
		if count <= 60 {
			takes(t, text)
		} else {
			wrongAt(t, text, 2+2*60)
		}
	}
}

// P13.3, P13.6: every beginning of a code's bytes is none, and no byte more.
func TestCutBytes(t *testing.T) {
	for seed := range int64(20) {
		b := wantedBytes(newGrower(seed).code())
		for n := range min(len(b), 2000) {
			if c, errno := Decode(b[:n]); errno != api.ErrCode || !isZero(c) {
				t.Fatalf("Decode(%x) = %v, %d", b[:n], c, errno)
			}
		}
		for _, more := range []string{"\x00", "C", b} {
			if _, errno := Decode(b + more); errno != api.ErrCode {
				t.Fatalf("Decode(%x and %x) = %d", b, more, errno)
			}
		}
	}
}

// P13.4, P13.5: each byte in quotes, as it is printed and as it is read.
func TestQuotes(t *testing.T) {
	for b := range 256 {
		text := string([]byte{byte(b)})
		c := changed(func(c *api.Code) { c.Texts = []string{text, "a" + text + text, text + "\""} })
		lays(t, c)
		printed, _ := Print(c)
		assembles(t, printed)
		hex := "\\x" + string("0123456789abcdef"[b>>4]) + string("0123456789abcdef"[b&15])
		for _, word := range []string{hex, strings.ToUpper(hex), hex[:3], hex + hex, text, "\\" + text, "\\x" + text + "0", "\\x0" + text, "a" + text + "b"} {
			assembles(t, "main 0\npool \""+word+"\"\nfn f 0 -\nnop")
			assembles(t, "main 0\npool \""+word+"\" # \"\nfn f 0 -\nnop")
		}
		if c := takes(t, "main 0\npool \""+hex+"\"\nfn f 0 -\nnop"); len(c.Texts) != 1 || c.Texts[0] != text {
			t.Errorf("%s says %q", hex, c.Texts)
		}
	}
	for _, length := range []int{199, 200, 201} {
		for _, piece := range []string{"x", "\\x00", "\\n", "\\\\", "\\\"", "#", " "} {
			assembles(t, "main 0\npool \""+strings.Repeat(piece, length)+"\"\nfn f 0 -\nnop")
		}
	}
}
