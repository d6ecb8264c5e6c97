package command

import (
	"math"
	"strconv"
	"strings"
	"testing"

	"retrace/api"
)

// P23.1, P23.2: a line has at most MaxLine bytes, its blanks among them.
func TestLongestLine(t *testing.T) {
	full := strings.Repeat("a", api.MaxLine-len("print "))
	for _, row := range []struct {
		line string
		may  bool
	}{
		{"print " + full, true}, {"print " + full + "a", false}, {"print " + full + " ", false}, {" print " + full, false},
		{"print " + full[1:] + " ", true}, {"print  " + full[1:], true}, {" print " + full[1:], true},
		{"break 1 if " + full[len("break 1 if ")-len("print "):], true}, {"break 1 if " + full[len("break 1 if ")-len("print ")-1:], false},
		{"step" + strings.Repeat(" ", 296), true}, {"step" + strings.Repeat(" ", 297), false}, {strings.Repeat("\t", 296) + "step", true}, {strings.Repeat("\t", 297) + "step", false},
		{"goto" + strings.Repeat(" ", 295) + "1", true}, {"goto" + strings.Repeat(" ", 296) + "1", false},
		{strings.Repeat(" ", 300), false}, {"step" + strings.Repeat(" ", 1<<20), false}, {strings.Repeat("step ", 60), false}, {strings.Repeat("a", 300), false}, {strings.Repeat("\n", 300), false},
	} {
		want := api.ErrCommand
		if row.may {
			want = api.OK
		}
		if _, errno := heldLine(t, row.line); errno != want {
			t.Errorf("%.20q.. of %d bytes: %d, want %d", row.line, len(row.line), errno, want)
		}
	}
	for length := range api.MaxLine + 3 {
		text := strings.Repeat("b", length)
		for _, c := range []api.Command{printing(text), onLine(1, text), onLine(math.MaxInt, text), onCall("f", text), onChange(strings.Repeat("n", 24), text)} {
			line, errno := heldCommand(t, c)
			if errno == api.OK && len(line) > 300 {
				t.Errorf("Text of %+v has %d bytes", c, len(line))
			}
		}
	}
	for _, c := range []api.Command{printing(strings.Repeat("a", 1<<22)), onLine(2, strings.Repeat("a", 1<<22)), onCall(strings.Repeat("a", 1<<22), ""), onChange(strings.Repeat(" ", 1<<22), "x")} {
		if line, errno := Text(c); line != "" || errno != api.ErrArg {
			t.Errorf("a command of 4 MiB: %d bytes, %d", len(line), errno)
		}
	}
}

// P23.2: just the commands whose line has at most MaxLine bytes have one.
func TestLongestText(t *testing.T) {
	for _, row := range []struct {
		make func(text string) api.Command
		most int
	}{
		{printing, 294},
		{func(text string) api.Command { return onLine(1, text) }, 289},
		{func(text string) api.Command { return onLine(math.MaxInt, text) }, 271},
		{func(text string) api.Command { return onCall("f", text) }, 289},
		{func(text string) api.Command { return onChange(strings.Repeat("n", 24), text) }, 266},
	} {
		if line, errno := Text(row.make(strings.Repeat("x", row.most))); len(line) != 300 || errno != api.OK {
			t.Errorf("%d bytes: a line of %d, %d", row.most, len(line), errno)
		}
		if line, errno := Text(row.make(strings.Repeat("x", row.most+1))); line != "" || errno != api.ErrArg {
			t.Errorf("%d bytes: %q, %d", row.most+1, line, errno)
		}
	}
}

// P23.1: names have at most MaxName bytes and are no keywords.
func TestNames(t *testing.T) {
	for length := range 40 {
		name := strings.Repeat("n", length)
		want := whether(length >= 1 && length <= api.MaxName)
		for _, line := range []string{"break " + name, "watch " + name, "break " + name + " if x", "watch\t" + name + "\tif x"} {
			if _, errno := heldLine(t, line); errno != want {
				t.Errorf("a name of %d bytes: %q: %d, want %d", length, line, errno, want)
			}
		}
	}
	for _, word := range strings.Fields(keywords) {
		for _, line := range []string{"break " + word, "watch " + word, "watch " + word + " if " + word} {
			if _, errno := heldLine(t, line); errno != api.ErrCommand {
				t.Errorf("%q: %d", line, errno)
			}
		}
		if c, errno := heldLine(t, "print "+word); c != printing(word) || errno != api.OK {
			t.Errorf("print %s: %+v, %d", word, c, errno)
		}
		if c, errno := heldLine(t, "break "+word+"s"); c != onCall(word+"s", "") || errno != api.OK {
			t.Errorf("break %ss: %+v, %d", word, c, errno)
		}
	}
	// The words of commands that are no keywords are names as well.
	for _, word := range strings.Fields("watch delete enable disable goto points step next finish back rnext rfinish rcontinue locals stack where list output event") {
		if c, errno := heldLine(t, "break "+word); c != onCall(word, "") || errno != api.OK {
			t.Errorf("break %s: %+v, %d", word, c, errno)
		}
	}
}

func whether(may bool) api.Errno {
	if may {
		return api.OK
	}
	return api.ErrCommand
}

// P23.1: which numbers each command takes.
func TestNumbers(t *testing.T) {
	const number, line, below = 1, 2, 4 // as a number, as a line, behind a goto
	for word, may := range map[string]int{
		"0": number | below, "1": number | line | below, "9": number | line | below, "10": number | line | below, "300": number | line | below,
		"9223372036854775807": number | line | below, "9223372036854775806": number | line | below, "2147483648": number | line | below, "4294967297": number | line | below,
		"-1": below, "-10": below, "-9223372036854775807": below,
		"9223372036854775808": 0, "-9223372036854775808": 0, "18446744073709551616": 0, "18446744073709551617": 0, "99999999999999999999": 0, "-9223372036854775809": 0, "10000000000000000000": 0,
		"00": 0, "01": 0, "-0": 0, "-01": 0, "--1": 0, "+1": 0, "-+1": 0, "-": 0, "+": 0, "- 1": 0, "1-": 0, "1_000": 0, "0x1": 0, "1e1": 0, "1.0": 0, "1a": 0, "a1": line, "1#": 0, "#1": 0, "1\r": 0, "\r1": 0, "1,": 0, "\"1\"": 0, "(1)": 0, "１": 0, "1 2": 0, "1 if 1": line,
		"0" + strings.Repeat("0", 200) + "1": 0, strings.Repeat("1", 290): 0,
	} {
		for start, flag := range map[string]int{"delete ": number, "enable ": number, "disable ": number, "break ": line, "goto ": below} {
			if _, errno := heldLine(t, start+word); errno != whether(may&flag != 0) {
				t.Errorf("%q: %d, want %v", start+word, errno, may&flag != 0)
			}
		}
	}
	for _, n := range []int{0, 1, 7, 10, 99, 12345678901, math.MaxInt} {
		for _, kind := range []api.CommandKind{api.CmDelete, api.CmEnable, api.CmDisable, api.CmGoto} {
			if text, errno := heldCommand(t, numbered(kind, n)); errno != api.OK || !strings.HasSuffix(text, " "+strconv.Itoa(n)) {
				t.Errorf("kind %d, %d: %q, %d", kind, n, text, errno)
			}
			text, errno := heldCommand(t, numbered(kind, -n))
			if may := kind == api.CmGoto || n == 0; (errno == api.OK) != may || may && !strings.HasSuffix(text, " "+strconv.Itoa(-n)) {
				t.Errorf("kind %d, %d: %q, %d", kind, -n, text, errno)
			}
		}
	}
}

// P23.3, P23.5: what is told may be of any length.
func TestLongTold(t *testing.T) {
	name := strings.Repeat("n", 1<<20)
	if got := Event(api.Event{Kind: api.EvCall, Node: 1, Name: name}); got != "call 1 "+name {
		t.Errorf("a name of 1 MiB: %d bytes", len(got))
	}
	lines := make([]string, 1<<16)
	for n := range lines {
		lines[n] = strings.Repeat("\xff", n%16)
	}
	want := 3
	for _, line := range lines {
		want += 3 + 4*len(line)
	}
	if got := Response(api.Response{Lines: lines}); len(got) != want {
		t.Errorf("%d lines: %d bytes, want %d", len(lines), len(got), want)
	}
}
