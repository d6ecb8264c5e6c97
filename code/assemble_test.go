package code

import (
	"slices"
	"strings"
	"testing"

	"retrace/api"
)

const head = "main 0\nfn f 0 -\n"

// P13.5: lines laid freely.
func TestFree(t *testing.T) {
	for _, text := range []string{
		head + "nop", head + "nop\n", head + "nop\n\n\n", "\n\n" + head + "\n\nnop", "  main\t0  \n\t fn \t f  0\t-\t\n \t nop \t \n",
		"#\nmain 0#\nfn f 0 -#\nnop#", "# main 1\nmain 0 # \"\nfn f 0 - # - int\n#\"\n\t# \n  nop#nop\n # \x00\xff\r", head + "nop\n \t \n",
	} {
		if c := takes(t, text); len(c.Instrs) != 1 || len(c.Entrys) != 1 || len(c.Texts) != 0 || c.Main != 0 {
			t.Errorf("%q: %v", text, c)
		}
		assembles(t, text)
	}
	for word, want := range map[string]string{
		`""`: "", `" "`: " ", `"#"`: "#", `"a # b"`: "a # b", `"\"#\""`: `"#"`, `"\\"`: `\`, `"\\" # "`: `\`, `"\""`: `"`, `"\x23"#`: "#", `"a"#b"`: "a", `"\n"`: "\n", `"\x0a\xff\x00"`: "\n\xff\x00", `"pool"`: "pool", `"  "  `: "  ", "\t\"a\"\t": "a",
	} {
		text := "main 0\npool " + word + "\nfn f 0 -\nnop"
		if c := takes(t, text); len(c.Texts) != 1 || c.Texts[0] != want {
			t.Errorf("%q: %q, want %q", text, c.Texts, want)
		}
		assembles(t, text)
	}
}

// P13.5: lines that cannot stand where they stand.
func TestWrongLines(t *testing.T) {
	for _, c := range []struct {
		text string
		line int
	}{
		{"x", 1}, {"\nmain", 2}, {"main 0 0", 1}, {"main x", 1}, {"main -1", 1}, {"main -0", 1}, {"main 00", 1}, {"main +0", 1}, {"main 60", 1}, {"main 18446744073709551616", 1}, {"\"main\" 0", 1}, {"main \"0\"", 1}, {"Main 0", 1}, {"main0", 1}, {"main 0\r\n", 1}, {"\r\n", 1}, {"main\v0", 1}, {"fn f 0 -", 1}, {"nop", 1}, {"\"", 1},
		{"main 0\nmain 0", 2}, {head + "main 0", 3}, {head + "nop\nmain 0", 4}, {"main 0\nnop\nnop", 2},
		{"main 0\npool", 2}, {"main 0\npool a", 2}, {"main 0\npool \"a\" \"b\"", 2}, {"main 0\npool \"a\"\"b\"", 2}, {"main 0\npool\"a\"", 2}, {"main 0\npool \"a\"b", 2}, {"main 0\npool a\"b\"", 2}, {"main 0\npool \"a", 2}, {"main 0\npool \"", 2}, {"main 0\npool \"\\", 2}, {"main 0\npool \"\\\"", 2}, {"main 0\npool \"a\nb\"", 2}, {"main 0\npool \"a\r\"", 2}, {"main 0\npool \"é\"", 2}, {"main 0\npool 'a'", 2}, {"main 0\npool 1", 2},
		{"main 0\npool \"" + strings.Repeat("x", 200) + "\"\npool \"" + strings.Repeat("x", 201) + "\"", 3}, {head + "pool \"a\"", 3}, {head + "nop\npool \"a\"", 4},
		{"main 0\nfn", 2}, {"main 0\nfn f", 2}, {"main 0\nfn f 0", 2}, {"main 0\nfn \"f\" 0 -", 2}, {"main 0\nfn _ 0 -", 2}, {"main 0\nfn f -0 -", 2}, {"main 0\nfn f 00 -", 2}, {"main 0\nfn f -1 -", 2}, {"main 0\nfn f 4294967296 -", 2}, {"main 0\nfn f x -", 2}, {"main 0\nfn f 1 -", 2}, {"main 0\nfn f 2 - int", 2}, {"main 0\nfn f 9 -" + strings.Repeat(" int", 9), 2}, {"main 0\nfn f 0 0", 2}, {"main 0\nfn f 0 - -", 2}, {"main 0\nfn f 0 int -", 2}, {"main 0\nfn f 0 - int x", 2}, {"main 0\nfn f 0 - [int ]", 2}, {"main 0\nfn f 0 - []", 2}, {"main 0\nfn f 0 - [[[[[int]]]]]", 2}, {"main 0\nfn f 0 -int", 2}, {"main 0\nfn f 0 - \"int\"", 2}, {"main 0\nfn " + strings.Repeat("f", 25) + " 0 -", 2}, {"main 0\nfn f 0 -" + strings.Repeat(" int", 251), 2}, {"main 0\nfn f 0 -" + strings.Repeat(" int", 10000), 2},
		{head + "fn g 0 -", 3}, {head + "nop\nfn g 0 -\nfn h 0 -", 5},
		{head + "nop nop", 3}, {head + "nop 0", 3}, {head + "nop -", 3}, {head + "nope", 3}, {head + "\"nop\"", 3}, {head + "nop\"", 3}, {head + "int", 3}, {head + "int 1 1", 3}, {head + "int 1x", 3}, {head + "int - 1", 3}, {head + "int --1", 3}, {head + "int 1_0", 3}, {head + "int 0x1", 3}, {head + "int 9223372036854775808", 3}, {head + "int -9223372036854775809", 3}, {head + "int -01", 3}, {head + "int +1", 3}, {head + "int true", 3},
		{head + "bool", 3}, {head + "bool 1", 3}, {head + "bool True", 3}, {head + "bool true false", 3}, {head + "true", 3}, {head + "text 4000", 3}, {head + "text -1", 3}, {head + "text \"a\"", 3}, {head + "load 250", 3}, {head + "store 250", 3}, {head + "un", 3}, {head + "un +", 3}, {head + "un 1", 3}, {head + "bin !", 3}, {head + "bin &&", 3}, {head + "bin ||", 3}, {head + "bin =", 3}, {head + "bin 3", 3}, {head + "bin", 3}, {head + "jump 60000", 3}, {head + "false 60000", 3}, {head + "false true", 3}, {head + "jump -1", 3}, {head + "call 60", 3}, {head + "call f", 3}, {head + "new 1", 3}, {head + "new -", 3}, {head + "new [[[[int]]]]", 3}, {head + "new int int", 3}, {head + "new", 3}, {head + "print 0", 3}, {head + "print 17", 3}, {head + "emit 0", 3}, {head + "emit 40001", 3}, {head + "tell 0", 3}, {head + "tell 40001", 3}, {head + "show 1", 3}, {head + "show 0 1", 3}, {head + "show 1 250", 3}, {head + "show 1 1 1", 3}, {head + "show 40001 1", 3}, {head + "show", 3}, {head + "emit 1 1", 3},
		{head + "nop\n\"", 4}, {head + "nop\n\n\n \" # ", 6},
	} {
		wrongAt(t, c.text, c.line)
		assembles(t, c.text)
	}
}

// P13.5: what is missing at the end.
func TestMissing(t *testing.T) {
	for text, line := range map[string]int{
		"": 2, "\n": 3, "#": 2, "\n\n# main 0\n": 5, "main 0": 2, "main 0\n": 3, "main 0\npool \"a\"\n": 4, "main 0\nfn f 0 -": 3, head: 4, head + "#nop\n\n": 6, head + "nop\nfn g 0 -": 5,
		"main 1\nfn f 0 -\nnop": 4, "main 59\nfn f 0 -\nnop\n\n": 6, "main 2\nfn f 0 -\nnop\nfn g 0 -\nnop\n": 7,
	} {
		wrongAt(t, text, line)
		assembles(t, text)
	}
	takes(t, "main 1\nfn f 0 -\nnop\nfn g 0 -\nnop\n")
}

// P13.5: a line too many, at its own place.
func TestTooMany(t *testing.T) {
	pool := "main 0\n" + strings.Repeat("pool \"\"\n", 4000)
	if c := takes(t, pool+"fn f 0 -\nnop"); len(c.Texts) != 4000 {
		t.Errorf("%d texts", len(c.Texts))
	}
	wrongAt(t, pool+"pool \"\"\nfn f 0 -\nnop", 4002)
	wrongAt(t, pool+"\n#\npool \"\"", 4004)

	long := head + strings.Repeat("nop\n", 60000)
	if c := takes(t, long); len(c.Instrs) != 60000 {
		t.Errorf("%d instructions", len(c.Instrs))
	}
	takes(t, long+"# nop")
	wrongAt(t, long+"nop", 60003)
	// There is no room for the instruction that the function would need.
	wrongAt(t, long+"fn g 0 -", 60003)
	wrongAt(t, long+"fn g 0 -\nnop", 60003)
	short := head + strings.Repeat("nop\n", 59999)
	if c := takes(t, short+"fn g 0 -\nnop\n"); len(c.Entrys) != 2 || c.Entrys[1].Start != 59999 {
		t.Errorf("%v", c.Entrys)
	}
	wrongAt(t, short+"fn g 0 -\n", 60004)
	wrongAt(t, short+"fn g 0 -\nnop\nnop", 60004)
	// The function that the main line names is missing, whether there is room for it or not.
	wrongAt(t, strings.Replace(long, "main 0", "main 1", 1), 60004)
	wrongAt(t, strings.Replace(short, "main 0", "main 1", 1), 60003)

	slots := "main 0\nfn f 8 [text]" + strings.Repeat(" [[[[bool]]]]", 250)
	if c := takes(t, slots+"\t#\nnop"); len(c.Entrys[0].Sorts) != 250 || c.Entrys[0].Sorts[249] != 18 || c.Entrys[0].Params != 8 || c.Entrys[0].Result != 7 {
		t.Errorf("%v", c.Entrys)
	}
	wrongAt(t, slots+" int\nnop", 2)
	// A comment ends even a line that has too many words.
	wrongAt(t, "main 0\n"+strings.Repeat("nop ", 100000)+"# \"\n", 2)
}

// P13.5: where functions begin, with lines of all kinds between.
func TestStarts(t *testing.T) {
	c := takes(t, "main 2\n\nfn f 0 -\n\nnop # 0\nnop\n\n# fn x 0 -\nfn g 1 [int] bool\npop\nfn h 0 -\n\tread\n\tpop\n\tdone")
	var starts []int
	for _, e := range c.Entrys {
		starts = append(starts, e.Start)
	}
	if c.Main != 2 || !slices.Equal(starts, []int{0, 2, 3}) || c.Entrys[1].Result != 5 || !slices.Equal(c.Entrys[1].Sorts, []api.Sort{2}) {
		t.Errorf("%v", c)
	}
}

// P13.5, P13.6: two lines of which each counts are never one, and a line is never two.
func TestLinesAreParted(t *testing.T) {
	wrongAt(t, "main 0 fn f 0 - nop", 1)
	wrongAt(t, "main\n0", 1)
	wrongAt(t, "main 0\nfn f 0 -\nint\n1", 3)
	wrongAt(t, "main 0\nfn f 0 - nop", 2)
	wrongAt(t, "main 0\nfn f 0\n-\nnop", 2)
}
