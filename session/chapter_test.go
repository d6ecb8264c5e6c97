package session

import (
	"fmt"
	"slices"
	"strings"
	"testing"

	"retrace/api"
)

// DOC.md's source.
const adding = `fn add(a: int, b: int): int {
  return a + b;
}
fn main() {
  var x: int = 2;
  read x;
  var a: [int] = new int[x];
  a[1] = add(x, 40);
  print x, a[1], "ok";
}
`

var enough = api.Limits{Depth: 10, Cells: 100}

func sessionOf(t testing.TB, source string, l api.Limits, budget int, input ...int64) *Session {
	t.Helper()
	s, problem := Start(source, input, l, budget)
	if problem != (api.Problem{}) || s == nil || s.At() != 0 {
		t.Fatalf("P24.1: Start(%.2000q) = %v, %+v", source, s, problem)
	}
	return s
}

// told is a line with its answer, the lines of which are written one behind the other.
type told struct {
	line   string
	status api.Errno
	stop   api.Stop
	lines  string
}

// asks does the lines, and asks where the session stands behind each.
func asks(t testing.TB, s *Session, rows ...told) {
	t.Helper()
	for _, row := range rows {
		before := s.At()
		r := s.Do(row.line)
		want := api.Response{Status: row.status, Stop: row.stop}
		if row.lines != "" {
			want.Lines = strings.Split(row.lines, "\n")
		}
		if !same(r, want) {
			t.Errorf("P24.2: %q: %+v, want %+v", row.line, r, want)
		}
		stands := row.stop.At
		if row.status != api.OK && row.status != api.ErrBudget {
			stands = before
		}
		if s.At() != stands {
			t.Errorf("P24.3: behind %q it stands at %d, want %d", row.line, s.At(), stands)
		}
	}
}

func same(a, b api.Response) bool {
	return a.Status == b.Status && a.Stop == b.Stop && slices.Equal(a.Lines, b.Lines)
}

// stands is the stop of a command that does not move.
func stands(at int) api.Stop { return api.Stop{At: at} }

func stopAt(kind api.StopKind, at int) api.Stop { return api.Stop{Kind: kind, At: at} }

// P24.2: the chapter's table, one row behind the other.
func TestExamples(t *testing.T) {
	s := sessionOf(t, adding, enough, 1000, 3)
	asks(t, s, told{"where", 0, stands(0), "no frames"}, told{"stack", 0, stands(0), "no frames"}, told{"locals", 0, stands(0), "no variables"}, told{"output", 0, stands(0), "no output"}, told{"event", 0, stands(0), "no event"}, told{"points", 0, stands(0), "no points"})
	asks(t, s, told{"break 2 if a > 1", 0, stands(0), "point 1"}, told{"continue", 0, api.Stop{Kind: api.StopPoint, At: 12, Point: 1}, "at 12: point 1\nadd line 2:   return a + b;"})
	asks(t, s, told{"print a + b", 0, stands(12), "a + b = 43"}, told{"print c", api.ErrUnseen, api.Stop{}, ""}, told{"print a +", api.ErrToken, api.Stop{}, ""})
	asks(t, s, told{"stack", 0, stands(12), "#0 add line 2\n#1 main line 8"}, told{"locals", 0, stands(12), "a: int = 3\nb: int = 40"})
	asks(t, s, told{"finish", 0, stopAt(api.StopStep, 13), "at 13: step\nmain line 8:   a[1] = add(x, 40);"}, told{"locals", 0, stands(13), "x: int = 3\na: [int] = [0, 0, 0]"})
	asks(t, s, told{"disable 1", 0, stands(13), "point 1 off"}, told{"points", 0, stands(13), "1: break 2 if a > 1 (off)"}, told{"delete 1", 0, stands(13), "point 1 deleted"}, told{"delete 1", api.ErrPoint, api.Stop{}, ""})
	asks(t, s, told{"goto 16", 0, stopAt(api.StopGoto, 16), "at 16: goto"}, told{"continue", 0, stopAt(api.StopEnd, 16), "at 16: ended"}, told{"output", 0, stands(16), "3 43 ok"})
	asks(t, s, told{"jump", api.ErrCommand, api.Stop{}, ""}, told{"", api.ErrCommand, api.Stop{}, ""})
	asks(t, s, told{"goto 0", 0, stopAt(api.StopGoto, 0), "at 0: goto"}, told{"where", 0, stands(0), "no frames"})
}

// P24.1, P24.4: the chapter's examples of Start and Script.
func TestScriptExamples(t *testing.T) {
	unseen := api.Problem{Code: api.ErrUnseen, At: 12}
	if s, problem := Start("fn main() { x = 1; }", []int64{3}, enough, 1000); s != nil || problem != unseen {
		t.Errorf("P24.1: %v, %+v", s, problem)
	}
	for _, script := range []string{"", "\n", "step\nat\n", "points"} {
		if list, problem := Script("fn main() { x = 1; }", []int64{3}, enough, 1000, script); len(list) != 0 || problem != unseen {
			t.Errorf("P24.4: %q: %+v, %+v", script, list, problem)
		}
	}
	for script, want := range map[string][]api.Errno{
		"step\nat\n":       {api.OK, api.ErrCommand},
		"step\nat":         {api.OK, api.ErrCommand},
		"":                 nil,
		"\n":               {api.ErrCommand},
		"\n\n":             {api.ErrCommand, api.ErrCommand},
		"\nstep":           {api.ErrCommand, api.OK},
		"step\n\n":         {api.OK, api.ErrCommand},
		"step\n ":          {api.OK, api.ErrCommand},
		"back\r\nevent\r":  {api.ErrCommand, api.ErrCommand},
		"back\npoints\n\t": {api.ErrStart, api.OK, api.ErrCommand},
	} {
		list, problem := Script(adding, []int64{3}, enough, 1000, script)
		var got []api.Errno
		for _, r := range list {
			got = append(got, r.Status)
		}
		if problem != (api.Problem{}) || !slices.Equal(got, want) {
			t.Errorf("P24.4: %q: %v, %+v, want %v", script, got, problem, want)
		}
	}
}

// DOC.md's examples 1 and 2 of the whole: what is printed, and each event with the line that is shown there.
func TestWholeRun(t *testing.T) {
	s := sessionOf(t, adding, enough, 1000, 3)
	events := []string{"call 9 main", "stmt 11", "set 11 x = 2", "stmt 13", "set 13 x = 3", "stmt 15", "set 15 a = #1", "stmt 18", "call 1 add", "set 2 a = 3", "set 3 b = 40", "stmt 5", "return 5 = 43", "touch 18 a = #1", "stmt 25", "leave 9"}
	lines := []string{"main line 4: fn main() {", "main line 5:   var x: int = 2;", "", "main line 6:   read x;", "", "main line 7:   var a: [int] = new int[x];", "", "main line 8:   a[1] = add(x, 40);", "add line 1: fn add(a: int, b: int): int {", "", "", "add line 2:   return a + b;", "main line 8:   a[1] = add(x, 40);", "", "main line 9:   print x, a[1], \"ok\";", "no frames"}
	for n, event := range events {
		if lines[n] == "" {
			lines[n] = lines[n-1]
		}
		stopped := fmt.Sprintf("at %d: goto", n+1)
		if lines[n] != "no frames" {
			stopped += "\n" + lines[n]
		}
		asks(t, s, told{fmt.Sprintf("goto %d", n+1), 0, stopAt(api.StopGoto, n+1), stopped})
		asks(t, s, told{"event", 0, stands(n + 1), event})
		asks(t, s, told{"where", 0, stands(n + 1), lines[n]})
	}
	asks(t, s, told{"goto 17", 0, stopAt(api.StopEnd, 16), "at 16: ended"}, told{"output", 0, stands(16), "3 43 ok"}, told{"print 1", 0, stands(16), "1 = 1"}, told{"step", api.ErrOver, api.Stop{}, ""})
}

// DOC.md's examples 3 to 6 of the whole: runs that trap.
func TestWholeTraps(t *testing.T) {
	for _, row := range []struct {
		input []int64
		l     api.Limits
		at    int
		word  string
		line  string
	}{
		{[]int64{1}, enough, 13, "index", "main line 8:   a[1] = add(x, 40);"},
		{nil, enough, 4, "input", "main line 6:   read x;"},
		{[]int64{3}, api.Limits{Depth: 10, Cells: 3}, 6, "heap", "main line 7:   var a: [int] = new int[x];"},
		{[]int64{3}, api.Limits{Depth: 1, Cells: 100}, 8, "depth", "main line 8:   a[1] = add(x, 40);"},
	} {
		s := sessionOf(t, adding, row.l, 1000, row.input...)
		stopped := fmt.Sprintf("at %d: trap %s\n%s", row.at, row.word, row.line)
		asks(t, s, told{"continue", 0, stopAt(api.StopEnd, row.at), stopped}, told{"output", 0, stands(row.at), "no output"}, told{"where", 0, stands(row.at), row.line}, told{"continue", api.ErrOver, api.Stop{}, ""})
		asks(t, s, told{"back", 0, stopAt(api.StopStep, row.at), fmt.Sprintf("at %d: step\n%s", row.at, row.line)}, told{"goto 99", 0, stopAt(api.StopEnd, row.at), stopped}, told{fmt.Sprintf("goto %d", row.at), 0, stopAt(api.StopGoto, row.at), fmt.Sprintf("at %d: goto\n%s", row.at, row.line)})
	}
}

// DOC.md's examples 7 to 10 of the whole.
func TestWholeMoves(t *testing.T) {
	s := sessionOf(t, adding, enough, 1000, 3)
	inAdd := "\nadd line 2:   return a + b;"
	asks(t, s, told{"break 2", 0, stands(0), "point 1"}, told{"continue", 0, api.Stop{Kind: api.StopPoint, At: 12, Point: 1}, "at 12: point 1" + inAdd}, told{"print a + b", 0, stands(12), "a + b = 43"}, told{"stack", 0, stands(12), "#0 add line 2\n#1 main line 8"})
	asks(t, s, told{"back", 0, stopAt(api.StopStep, 11), "at 11: step\nadd line 1: fn add(a: int, b: int): int {"}, told{"goto 12", 0, stopAt(api.StopGoto, 12), "at 12: goto" + inAdd}, told{"rcontinue", 0, stopAt(api.StopStart, 0), "at 0: start"})
	asks(t, s, told{"watch x", 0, stands(0), "point 2"}, told{"continue", 0, api.Stop{Kind: api.StopPoint, At: 3, Point: 2}, "at 3: point 2\nmain line 5:   var x: int = 2;"}, told{"continue", 0, api.Stop{Kind: api.StopPoint, At: 5, Point: 2}, "at 5: point 2\nmain line 6:   read x;"})
	for at := range 17 {
		s.Do(fmt.Sprintf("goto %d", at))
		asks(t, s, told{"goto 16", 0, stopAt(api.StopGoto, 16), "at 16: goto"})
		s.Do(fmt.Sprintf("goto %d", at))
		asks(t, s, told{"goto 99", 0, stopAt(api.StopEnd, 16), "at 16: ended"})
	}
}

// P24.2: every command that moves, each with the line of where behind its own.
func TestMoves(t *testing.T) {
	s := sessionOf(t, adding, enough, 1000, 3)
	calling, adds := "\nmain line 8:   a[1] = add(x, 40);", "\nadd line 2:   return a + b;"
	asks(t, s, told{"step", 0, stopAt(api.StopStep, 2), "at 2: step\nmain line 5:   var x: int = 2;"}, told{"goto 8", 0, stopAt(api.StopGoto, 8), "at 8: goto" + calling}, told{"step", 0, stopAt(api.StopStep, 12), "at 12: step" + adds})
	asks(t, s, told{"back", 0, stopAt(api.StopStep, 11), "at 11: step\nadd line 1: fn add(a: int, b: int): int {"}, told{"rnext", 0, stopAt(api.StopStep, 8), "at 8: step" + calling}, told{"next", 0, stopAt(api.StopStep, 15), "at 15: step\nmain line 9:   print x, a[1], \"ok\";"})
	asks(t, s, told{"goto 9", 0, stopAt(api.StopGoto, 9), "at 9: goto\nadd line 1: fn add(a: int, b: int): int {"}, told{"rfinish", 0, stopAt(api.StopStep, 8), "at 8: step" + calling}, told{"rfinish", 0, stopAt(api.StopStart, 0), "at 0: start"}, told{"back", api.ErrStart, api.Stop{}, ""}, told{"rcontinue", api.ErrStart, api.Stop{}, ""})
	asks(t, s, told{"goto -5", 0, stopAt(api.StopGoto, 0), "at 0: goto"}, told{"break add if b == 40", 0, stands(0), "point 1"}, told{"break main", 0, stands(0), "point 2"}, told{"goto 12", 0, stopAt(api.StopGoto, 12), "at 12: goto" + adds}, told{"rcontinue", 0, api.Stop{Kind: api.StopPoint, At: 11, Point: 1}, "at 11: point 1\nadd line 1: fn add(a: int, b: int): int {"}, told{"rcontinue", 0, api.Stop{Kind: api.StopPoint, At: 1, Point: 2}, "at 1: point 2\nmain line 4: fn main() {"})
	asks(t, s, told{"goto 12", 0, stopAt(api.StopGoto, 12), "at 12: goto" + adds}, told{"finish", 0, stopAt(api.StopStep, 13), "at 13: step" + calling}, told{"finish", 0, stopAt(api.StopStep, 16), "at 16: step"}, told{"continue", 0, stopAt(api.StopEnd, 16), "at 16: ended"}, told{"back", 0, stopAt(api.StopStep, 16), "at 16: step"})
}

// P24.2: the points, by number, as the lines that set them; those that are off, and none.
func TestPoints(t *testing.T) {
	s := sessionOf(t, adding, enough, 1000, 3)
	asks(t, s, told{" break\t8  if\ta  ==  1 ", 0, stands(0), "point 1"}, told{"watch x", 0, stands(0), "point 2"}, told{"break add", 0, stands(0), "point 3"}, told{"watch a if len(a) == 3", 0, stands(0), "point 4"}, told{"break 9", 0, stands(0), "point 5"})
	asks(t, s, told{"points", 0, stands(0), "1: break 8 if a  ==  1\n2: watch x\n3: break add\n4: watch a if len(a) == 3\n5: break 9"})
	asks(t, s, told{"disable 4", 0, stands(0), "point 4 off"}, told{"disable 2", 0, stands(0), "point 2 off"}, told{"disable 2", 0, stands(0), "point 2 off"}, told{"disable 3", 0, stands(0), "point 3 off"}, told{"enable 2", 0, stands(0), "point 2 on"}, told{"enable 5", 0, stands(0), "point 5 on"}, told{"delete 1", 0, stands(0), "point 1 deleted"})
	asks(t, s, told{"points", 0, stands(0), "2: watch x\n3: break add (off)\n4: watch a if len(a) == 3 (off)\n5: break 9"})
	asks(t, s, told{"break 1 if a +", api.ErrExpr, api.Stop{}, ""}, told{"break 1 if )", api.ErrExpr, api.Stop{}, ""}, told{"enable 1", api.ErrPoint, api.Stop{}, ""}, told{"disable 0", api.ErrPoint, api.Stop{}, ""}, told{"delete 6", api.ErrPoint, api.Stop{}, ""})
	asks(t, s, told{"break 2", 0, stands(0), "point 6"}, told{"continue", 0, api.Stop{Kind: api.StopPoint, At: 3, Point: 2}, "at 3: point 2\nmain line 5:   var x: int = 2;"})
	for _, n := range []string{"2", "3", "4", "5", "6"} {
		asks(t, s, told{"delete " + n, 0, stands(3), "point " + n + " deleted"})
	}
	asks(t, s, told{"points", 0, stands(3), "no points"})
}

// P24.2: values with what they refer to, three arrays deep; variables of all types, and those that cannot be seen.
func TestValues(t *testing.T) {
	s := sessionOf(t, "fn main() {\nvar g: [[[[int]]]] = new [[[int]]][2]; g[1] = new [[int]][1]; g[1][0] = new [int][1]; g[1][0][0] = new int[20];\nvar t: text = \"a\\\"\\n\" + \"\\xff\"; var b: bool = 1 < 2; var n: int = 0 - 5; var l: [int] = g[1][0][0]; var e: [text] = new text[0];\n{ var n: text = \"in\"; var w: [bool] = new bool[17]; print 1; }\nprint 2; }", enough, 1000)
	s.Do("goto 999")
	s.Do("back")
	for s.Do("print w").Status != api.OK {
		s.Do("back")
	}
	at := s.At()
	zeros := strings.Repeat("0, ", 15) + "0, .."
	outer := "g: [[[[int]]]] = [[], [[#4]]]\nt: text = \"a\\\"\\n\\xff\"\nb: bool = true\n"
	asks(t, s, told{"locals", 0, stands(at), outer + "l: [int] = [" + zeros + "]\ne: [text] = []\nn: text = \"in\"\nw: [bool] = [" + strings.ReplaceAll(zeros, "0", "false") + "]"})
	asks(t, s, told{"print g", 0, stands(at), "g = [[], [[#4]]]"}, told{"print g[1]", 0, stands(at), "g[1] = [[[" + zeros + "]]]"}, told{"print  t + n ", 0, stands(at), "t + n = \"a\\\"\\n\\xffin\""}, told{"print l == g[1][0][0]", 0, stands(at), "l == g[1][0][0] = true"}, told{"print n == \"in\" && b # so it is", 0, stands(at), "n == \"in\" && b # so it is = true"})
	asks(t, s, told{"print l[20]", api.ErrTrap, api.Stop{}, ""}, told{"print l[0] / l[1]", api.ErrTrap, api.Stop{}, ""}, told{"print n - 1", api.ErrType, api.Stop{}, ""}, told{"print main()", api.ErrExpr, api.Stop{}, ""}, told{"print new int[1]", api.ErrExpr, api.Stop{}, ""}, told{"print 1 2", api.ErrToken, api.Stop{}, ""}, told{"print $", api.ErrByte, api.Stop{}, ""})
	s.Do("step")
	at = s.At()
	asks(t, s, told{"locals", 0, stands(at), outer + "n: int = -5\nl: [int] = [" + zeros + "]\ne: [text] = []"}, told{"print w", api.ErrUnseen, api.Stop{}, ""}, told{"print n", 0, stands(at), "n = -5"})
}

// P24.2: the lines of the output, those that are empty too.
func TestOutput(t *testing.T) {
	s := sessionOf(t, "fn main() { print \"\"; print \"a\\n\\nb\", 1; print \"\\xe9\\x09\"+\"\\x0d\"; print \"end\\n\"; }", enough, 1000)
	for _, want := range []string{"no output", "", "\na\n\nb 1", "\na\n\nb 1\n\xe9\t\r", "\na\n\nb 1\n\xe9\t\r\nend\n"} {
		r := s.Do("output")
		if r.Status != api.OK || strings.Join(r.Lines, "\n") != want || len(r.Lines) != strings.Count(want, "\n")+1 {
			t.Errorf("P24.2: %+v, want %q", r, want)
		}
		s.Do("step")
		if want == "no output" {
			s.Do("step")
		}
	}
}

// P24.2: the lines around a frame's node, and around the source's beginning without one.
func TestList(t *testing.T) {
	source := "# a\tb\r\n\nfn main() {\n  var x: int = 1;\n\n\tprint x; # \xe9\n  f(x);\n}\n\nfn f(n: int) {\n}"
	s := sessionOf(t, source, enough, 1000)
	asks(t, s, told{"list", 0, stands(0), "1 | # a b.\n  | ^\n2 |\n3 | fn main() {"}, told{"print x", api.ErrUnseen, api.Stop{}, ""}, told{"print 1 + 1", 0, stands(0), "1 + 1 = 2"})
	asks(t, s, told{"goto 1", 0, stopAt(api.StopGoto, 1), "at 1: goto\nmain line 3: fn main() {"}, told{"list", 0, stands(1), "1 | # a b.\n2 |\n3 | fn main() {\n  | ^\n4 |   var x: int = 1;\n5 |"})
	s.Do("step")
	asks(t, s, told{"step", 0, stopAt(api.StopStep, 4), "at 4: step\nmain line 6: \tprint x; # \xe9"}, told{"list", 0, stands(4), "4 |   var x: int = 1;\n5 |\n6 |  print x; # .\n  |  ^\n7 |   f(x);\n8 | }"})
	asks(t, s, told{"step", 0, stopAt(api.StopStep, 5), "at 5: step\nmain line 7:   f(x);"}, told{"finish", 0, stopAt(api.StopStep, 9), "at 9: step"}, told{"goto 7", 0, stopAt(api.StopGoto, 7), "at 7: goto\nf line 10: fn f(n: int) {"}, told{"list", 0, stands(7), " 8 | }\n 9 |\n10 | fn f(n: int) {\n   | ^\n11 | }"}, told{"stack", 0, stands(7), "#0 f line 10\n#1 main line 7"})
}
