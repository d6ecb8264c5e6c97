package session

import (
	"fmt"
	"strconv"
	"strings"
	"testing"

	"retrace/api"
)

// P24.2: lines as long as may be, and one byte longer; what is told of them is as long as it is.
func TestLongestLines(t *testing.T) {
	s := sessionOf(t, adding, enough, 1000, 3)
	sum := "1" + strings.Repeat("+1", 37)
	gap := strings.Repeat(" ", 218)
	for _, row := range []struct {
		line string
		told string
	}{
		{"print " + sum + gap + "#", sum + gap + "# = 38"},
		{"print " + sum + gap + " ", sum + " = 38"},
		{"print\t " + gap + sum, sum + " = 38"},
		{"where" + strings.Repeat(" ", 295), "no frames"},
		{"break 2 if " + strings.Repeat(" ", 288) + "a", "point 1"},
		{"break 2 if \"" + strings.Repeat("w", 200) + "\"" + strings.Repeat(" ", 86) + "#", "point 2"},
		{"watch " + strings.Repeat("w", 24) + strings.Repeat("\t", 270), "point 3"},
	} {
		if len(row.line) != api.MaxLine {
			t.Fatalf("%q has %d bytes", row.line, len(row.line))
		}
		asks(t, s, told{row.line + " ", api.ErrCommand, api.Stop{}, ""}, told{row.line, 0, stands(0), row.told})
		list, _ := Script(adding, nil, enough, 1000, row.line+" \n"+row.line+"\n"+row.line)
		if len(list) != 3 || list[0].Status != api.ErrCommand || list[1].Status != api.OK || list[2].Status != api.OK {
			t.Errorf("P24.4: %q: %+v", row.line, list)
		}
	}
	asks(t, s, told{"points", 0, stands(0), "1: break 2 if a\n2: break 2 if \"" + strings.Repeat("w", 200) + "\"" + strings.Repeat(" ", 86) + "#\n3: watch " + strings.Repeat("w", 24)})
}

// P24.2: MaxPoints points, and one more; those that are gone make room, and numbers are not given again.
func TestMostPoints(t *testing.T) {
	p := plainly(t, adding, enough, 20, 3).pair(t, 1000)
	for n := 1; n <= api.MaxPoints; n++ {
		p.does("break " + strconv.Itoa(n+20))
	}
	for range 2 {
		if told, _ := p.does("watch x"); told.Status != api.ErrSize {
			t.Errorf("P24.2: one point more: %+v", told)
		}
	}
	for _, line := range []string{"points", "delete 7", "watch x if x == 3", "points", "delete 33", "watch x if x == 3", "points", "continue", "disable 34", "goto 0", "continue", "points"} {
		p.does(line)
	}
}

// P24.2: numbers of all sizes.
func TestNumbers(t *testing.T) {
	for _, budget := range []int{0, 5, 1000} {
		p := plainly(t, adding, enough, 100, 3).pair(t, budget)
		p.does("break 9223372036854775807 if true")
		p.does("break 2147483648")
		for range 8 {
			for _, n := range []string{"0", "1", "2", "3", "16", "17", "2147483647", "4294967297", "9223372036854775807", "-1", "-9223372036854775807"} {
				for _, word := range []string{"goto ", "goto 3", "disable ", "points", "enable "} {
					if strings.HasSuffix(word, " ") {
						word += n
					}
					p.does(word)
				}
			}
			p.does("step")
			p.asks()
		}
	}
}

// P24.2: a thousand frames, each with its line.
func TestThousandFrames(t *testing.T) {
	r := plainly(t, "fn even(n: int) { if n < 998 {\n\nodd(n + 1); } }\nfn odd(n: int) { if n < 998 { even(n + 1); } }\nfn main() {\neven(0); }", api.Limits{Depth: 1000}, 8000)
	p := r.pair(t, api.MaxBudget)
	p.does("break 1 if n == 998")
	p.does("continue")
	told, _ := p.does("stack")
	if len(told.Lines) != 1000 || told.Lines[0] != "#0 even line 1" || told.Lines[1] != "#1 odd line 4" || told.Lines[998] != "#998 even line 3" || told.Lines[999] != "#999 main line 6" {
		t.Errorf("P24.2: %.2000q", told.Lines)
	}
	p.asks()
	for _, line := range []string{"finish", "stack", "delete 1", "rfinish", "finish", "stack", "continue", "stack"} {
		p.does(line)
	}
}

// P24.2: as many variables as a function may have.
func TestMostVariables(t *testing.T) {
	var source, want strings.Builder
	source.WriteString("fn main() {\n")
	for n := range api.MaxSlots {
		fmt.Fprintf(&source, "var v%d: int = %d;\n", n, n*n)
		fmt.Fprintf(&want, "v%d: int = %d\n", n, n*n)
	}
	s := sessionOf(t, source.String()+"print 1;\n}", enough, 10000)
	at := 2*api.MaxSlots + 2
	s.Do("goto " + strconv.Itoa(at))
	asks(t, s, told{"locals", 0, stands(at), strings.TrimSuffix(want.String(), "\n")}, told{"print v249 - v248", 0, stands(at), "v249 - v248 = 497"}, told{"where", 0, stands(at), "main line 252: print 1;"})
}

// P24.2: sources as long as may be: of one line, and of no more than lines.
func TestLongestSources(t *testing.T) {
	wide := "fn main() { print 1; #" + strings.Repeat("\xe9", api.MaxSource-24) + "\n}"
	s := sessionOf(t, wide, enough, 1000)
	asks(t, s, told{"step", 0, stopAt(api.StopStep, 2), "at 2: step\nmain line 1: " + strings.TrimSuffix(wide, "\n}")}, told{"list", 0, stands(2), "1 | fn main() { print 1; #" + strings.Repeat(".", api.MaxSource-24) + "\n  | " + strings.Repeat(" ", 12) + "^\n2 | }"})
	high := strings.Repeat("\n", api.MaxSource-13) + "fn main() { }"
	s = sessionOf(t, high, enough, 1000)
	asks(t, s, told{"list", 0, stands(0), "1 |\n  | ^\n2 |\n3 |"}, told{"next", 0, stopAt(api.StopEnd, 2), "at 2: ended"}, told{"goto 1", 0, stopAt(api.StopGoto, 1), "at 1: goto\nmain line 19988: fn main() { }"}, told{"list", 0, stands(1), "19986 |\n19987 |\n19988 | fn main() { }\n      | ^"}, told{"break 19988", 0, stands(1), "point 1"})
}

// P24.2: the heap as full as may be; many lines with it, as most of them ask nothing of it.
func TestFullHeap(t *testing.T) {
	s := sessionOf(t, "fn main() { var big: [[text]] = new [text][2]; big[1] = new text[99900]; var n: int = 0;\nwhile true { n = n + 1; big[1][99899] = str(n); } }", api.Limits{Depth: 1, Cells: 100000}, api.MaxBudget)
	for range 4000 {
		s.Do("step")
	}
	s.Do("break 2 if big[1][99899] == \"2500\"")
	if r := s.Do("continue"); r.Stop.Kind != api.StopPoint {
		t.Fatalf("P24.2: %+v", r.Stop)
	}
	blank := "\"\"" + strings.Repeat(", \"\"", 15) + ", .."
	asks(t, s, told{"print n", 0, stands(s.At()), "n = 2500"}, told{"print len(big[1])", 0, stands(s.At()), "len(big[1]) = 99900"}, told{"locals", 0, stands(s.At()), "big: [[text]] = [[], [" + blank + "]]\nn: int = 2500"})
	full := sessionOf(t, "fn main() { var a: [int] = new int[99999]; var b: [int] = new int[0]; }", api.Limits{Depth: 1, Cells: 100000}, 1000)
	asks(t, full, told{"continue", 0, stopAt(api.StopEnd, 4), "at 4: trap heap\nmain line 1: fn main() { var a: [int] = new int[99999]; var b: [int] = new int[0]; }"}, told{"print len(a)", 0, stands(4), "len(a) = 99999"}, told{"print b", api.ErrUnseen, api.Stop{}, ""})
}

// P24.2: the greatest budget is used up; a command more goes on from there, and what is shown there is what a shorter way shows.
func TestGreatestBudget(t *testing.T) {
	s := sessionOf(t, "fn main() { var n: int = 0; while true { n = n + 1; } }", enough, api.MaxBudget)
	for range 2 {
		r := s.Do("continue")
		if r.Status != api.ErrBudget || r.Stop != stopAt(api.StopBudget, s.At()) || len(r.Lines) != 2 || r.Lines[0] != fmt.Sprintf("at %d: budget", s.At()) || r.Lines[1] != "main line 1: fn main() { var n: int = 0; while true { n = n + 1; } }" {
			t.Fatalf("P24.2: %+v at %d", r, s.At())
		}
	}
	at := s.At()
	before := []api.Response{s.Do("locals"), s.Do("event")}
	s.Do("goto 3")
	for s.At() < at {
		if r := s.Do("goto " + strconv.Itoa(at)); r.Status != api.OK && r.Status != api.ErrBudget {
			t.Fatalf("%+v", r)
		}
	}
	for n, line := range []string{"locals", "event"} {
		if r := s.Do(line); !same(r, before[n]) {
			t.Errorf("P24.6: %q: %+v, want %+v", line, r, before[n])
		}
	}
}

// P24.4: scripts of very many lines, and a line of very many bytes.
func TestLongScripts(t *testing.T) {
	many := 200000
	list, problem := Script(adding, []int64{3}, enough, 1000, strings.Repeat("\n", many-3)+"step\nwhere\nwhere")
	if problem != (api.Problem{}) || len(list) != many {
		t.Fatalf("P24.4: %d responses, %+v", len(list), problem)
	}
	for n, r := range list[:many-3] {
		if !same(r, api.Response{Status: api.ErrCommand}) {
			t.Fatalf("P24.4: response %d: %+v", n+1, r)
		}
	}
	for _, r := range list[many-2:] {
		if !same(r, api.Response{Stop: stands(2), Lines: []string{"main line 5:   var x: int = 2;"}}) {
			t.Errorf("P24.4: %+v", r)
		}
	}
	list, problem = Script(adding, []int64{3}, enough, 1000, "step\n"+strings.Repeat("step ", 1<<20)+"\nnext")
	if problem != (api.Problem{}) || len(list) != 3 || list[1].Status != api.ErrCommand || list[2].Stop.At != 4 {
		t.Errorf("P24.4: %d responses, %+v", len(list), problem)
	}
}

// P24.2: an output of very many lines.
func TestLongOutput(t *testing.T) {
	s := sessionOf(t, "fn main() { var wide: text = \"0123456789\\n\"; for i = 1 to 20000 { print wide + wide, i; } }", enough, api.MaxBudget)
	s.Do("continue")
	r := s.Do("output")
	if r.Status != api.OK || len(r.Lines) != 3*20000 || r.Lines[0] != "0123456789" || r.Lines[59999] != " 20000" {
		t.Errorf("P24.2: %d lines", len(r.Lines))
	}
}
