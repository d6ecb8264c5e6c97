package command

import (
	"math"
	"math/rand"
	"strings"
	"testing"

	"retrace/api"
)

// P23.1: lines that are no command's, whatever is wrong with them.
func TestWrongLines(t *testing.T) {
	for _, line := range []string{
		// words that are none, or run into what follows
		"Break 2", "BREAK 2", "b 2", "brea 2", "breaks 2", "break2", "watchx", "print(a)", "print\"a\"", "goto-3", "goto1", "step;", "step\r", "\rstep", "step\x00", "\xef\xbb\xbfstep", "step step", "ste p", "r next", "r-next", "if", "if x", "2", "x", "-", "#", "# step", "step # so", "?", "help", "quit",
		// too few words, and too many
		"break", "break ", "watch", "watch\t", "delete", "enable", "disable", "goto", "print", "print ", "print \t ", "break 2 3", "break f g", "watch x y", "watch x, y", "delete 1 2", "enable 1 if x", "goto 1 if x", "goto 1 1", "points 1", "list 3", "locals if x", "where if", "event 0", "output print",
		// conditions that are none
		"break 2 if", "break 2 if ", "break 2 if\t \t", "watch x if", "break if x", "break if if x", "watch if x", "break 2 IF x", "break 2 ifx", "break 2 if(x)", "break 2 if\"x\"", "break 2 i f x", "break 2if x", "break 2 x if y", "break 2 when x", "break f(x) if y", "break 2 if\rx",
		// places that are none
		"break -1", "break +1", "break 0", "break 0 if x", "break 00", "break 02", "break 2a", "break 2_", "break 2.", "break 1,2", "break 1:2", "break \"f\"", "break f()", "break f:2", "break _f", "break f-g", "break f.g", "break f#", "break #f", "break f;", "break é", "break f\xff", "break @1", "break f\r", "break \rf", "break while", "break 9223372036854775808",
		"watch 2", "watch 0", "watch a[0]", "watch a[1]", "watch *a", "watch a.b", "watch \"a\"", "watch true", "watch 2 if x", "watch -x",
		// line feeds, wherever they stand
		"\n", "step\n", "\nstep", "break\n2", "break 2\nif x", "print a\n", "print a\nb", "print \n", "print \xe2\n\x82", "print \xff\n", "break 2 if x\n", "break 2 if\nx", "goto 1\n",
		"", " ", "\t", " \t ",
	} {
		if got, errno := heldLine(t, line); got != (api.Command{}) || errno != api.ErrCommand {
			t.Errorf("Parse(%q) = %+v, %d", line, got, errno)
		}
	}
}

// P23.1: an expression is any bytes, whether it can be read or not.
func TestAnyExpression(t *testing.T) {
	for _, text := range []string{"a", "1 +", "if", "if if", "print", "\r", "\x00", "\xff\xfe", "é", "# no", `"`, `"a  b"`, "a \t b", "=", "\v", "\f", "\u00a0", "\u2028", "if x", "2 if x", ")", "a;b", "\\n", "\x0b a \x0c"} {
		for line, want := range map[string]api.Command{
			"print " + text: printing(text), "print\t \t" + text + "\t ": printing(text),
			"break 2 if " + text: onLine(2, text), "break f if  " + text + " ": onCall("f", text), " watch x if\t" + text: onChange("x", text),
		} {
			if got, errno := heldLine(t, line); got != want || errno != api.OK {
				t.Errorf("Parse(%q) = %+v, %d, want %+v", line, got, errno, want)
			}
		}
	}
}

// P23.2: commands of which there is no line: a field that the kind does not name, one that is missing, one that may not be.
func TestWrongCommands(t *testing.T) {
	with := func(c api.Command, change func(c *api.Command)) api.Command {
		change(&c)
		return c
	}
	list := []api.Command{
		{}, {Kind: -1}, {Kind: 23}, {Kind: math.MaxInt}, {Kind: math.MinInt}, {N: 1}, {Text: "step"}, {Kind: 1}, {Kind: 2}, printing(""),
		{Kind: api.CmBreak, Point: api.Point{Kind: api.PtLine}}, {Kind: api.CmBreak, Point: api.Point{Kind: api.PtFunc}}, {Kind: api.CmWatch, Point: api.Point{Kind: api.PtWatch}},
		{Kind: api.CmBreak, Point: api.Point{Kind: api.PtWatch, Name: "x"}}, {Kind: api.CmWatch, Point: api.Point{Kind: api.PtFunc, Name: "x"}}, {Kind: api.CmWatch, Point: api.Point{Kind: api.PtLine, Line: 1}},
		{Kind: api.CmBreak, Point: api.Point{Name: "x"}}, {Kind: api.CmBreak, Point: api.Point{Line: 1}}, {Kind: api.CmBreak, Point: api.Point{Kind: 4, Name: "x"}}, {Kind: api.CmWatch, Point: api.Point{Name: "x"}},
		onLine(0, ""), onLine(-1, ""), onLine(math.MinInt, ""), onCall("if", ""), onCall("2", ""), onCall("a b", ""), onCall("f if x", ""), onCall(" f", ""), onCall("f\n", ""), onChange("x if y", "z"), onChange("", "z"), onChange("1", ""),
		onLine(1, " "), onLine(1, " x"), onLine(1, "x "), onLine(1, "\tx"), onLine(1, "x\t"), onLine(1, "x\ny"), onCall("f", "\n"), onChange("x", "\t"),
		printing(" a"), printing("a "), printing("\ta"), printing("a\t"), printing("a\n"), printing("\n"), printing("a\nb"), printing(" "),
		numbered(api.CmDelete, -1), numbered(api.CmEnable, -1), numbered(api.CmDisable, math.MinInt), numbered(api.CmGoto, math.MinInt),
	}
	for _, c := range []api.Command{onLine(2, "x"), onCall("f", ""), onChange("x", "y"), numbered(api.CmDelete, 3), numbered(api.CmEnable, 3), numbered(api.CmDisable, 0), numbered(api.CmGoto, -3), printing("a"), {Kind: api.CmPoints}, {Kind: api.CmStep}, {Kind: api.CmRcontinue}, {Kind: api.CmLocals}, {Kind: api.CmEvent}} {
		if _, errno := heldCommand(t, c); errno != api.OK {
			t.Errorf("Text(%+v): %d", c, errno)
		}
		list = append(list, with(c, func(c *api.Command) { c.Point.Off = true }))
		if c.Kind != api.CmPrint {
			list = append(list, with(c, func(c *api.Command) { c.Text = "a" }))
		}
		if c.Kind < api.CmDelete || c.Kind > api.CmDisable && c.Kind != api.CmGoto {
			list = append(list, with(c, func(c *api.Command) { c.N = 1 }), with(c, func(c *api.Command) { c.N = -1 }))
		}
		if c.Kind > api.CmWatch {
			list = append(list, with(c, func(c *api.Command) { c.Point.Kind = api.PtLine }), with(c, func(c *api.Command) { c.Point.Cond = "x" }))
		}
		if c.Point.Kind != api.PtLine {
			list = append(list, with(c, func(c *api.Command) { c.Point.Line = 1 }), with(c, func(c *api.Command) { c.Point.Line = -1 }))
		} else {
			list = append(list, with(c, func(c *api.Command) { c.Point.Name = "f" }))
		}
	}
	for _, c := range list {
		if line, errno := heldCommand(t, c); line != "" || errno != api.ErrArg {
			t.Errorf("Text(%+v) = %q, %d", c, line, errno)
		}
	}
}

// P23.8: any bytes, any numbers, any lists.
func TestAnything(t *testing.T) {
	r := rand.New(rand.NewSource(238))
	bytes := func(most int) string {
		text := make([]byte, r.Intn(most))
		r.Read(text)
		return string(text)
	}
	number := func() int { return int(r.Uint64()) >> r.Intn(64) }
	for range seeds(60000) {
		heldLine(t, bytes(24))
		heldLine(t, picked(r, "print ", "break ", "watch ", "break 1 if ", "goto ", "delete ")+bytes(12))
		heldCommand(t, api.Command{Kind: api.CommandKind(number()), Point: api.Point{Kind: api.PointKind(number()), Line: number(), Name: bytes(9), Cond: bytes(9), Off: r.Intn(2) == 0}, N: number(), Text: bytes(9)})
		e := api.Event{Kind: api.EventKind(number()), Node: number(), Name: bytes(9), Value: api.Value{Kind: api.ValueKind(number()), Int: int64(number()), Text: bytes(3)}}
		if got := Event(e); got != eventPlainly(e) {
			t.Fatalf("Event(%+v) = %q", e, got)
		}
		s, o := api.Stop{Kind: api.StopKind(number()), At: number(), Point: number()}, api.Outcome{Phase: api.Phase(number()), Trap: api.Trap(number())}
		if got := Stop(s, o); got != stopPlainly(s, o) {
			t.Fatalf("Stop(%+v, %+v) = %q", s, o, got)
		}
		response := api.Response{Status: api.Errno(number()), Stop: s, Lines: []string{bytes(9), bytes(2)}[:r.Intn(3)]}
		if got := Response(response); got != responsePlainly(response) {
			t.Fatalf("Response(%+v) = %q", response, got)
		}
	}
	for _, line := range []string{strings.Repeat("print ", 1<<20), strings.Repeat("\x80", 1<<22), strings.Repeat(" ", 1<<24), "step" + strings.Repeat("\n", 1<<22)} {
		if got, errno := Parse(line); got != (api.Command{}) || errno != api.ErrCommand {
			t.Errorf("a line of %d bytes: %+v, %d", len(line), got, errno)
		}
	}
}
