package session

import (
	"math"
	"strings"
	"testing"

	"retrace/api"
	"retrace/events"
	"retrace/monitor"
)

// refused tells that neither Start nor Script takes what is given.
func refused(t *testing.T, source string, input []int64, l api.Limits, budget int, want api.Problem) {
	t.Helper()
	if s, problem := Start(source, input, l, budget); s != nil || problem != want {
		t.Errorf("P24.1: Start(%.200q) = %v, %+v, want %+v", source, s, problem, want)
	}
	for _, script := range []string{"", "step\nwhere\n", "jump"} {
		if list, problem := Script(source, input, l, budget, script); len(list) != 0 || problem != want {
			t.Errorf("P24.4: Script(%.200q) = %+v, %+v, want %+v", source, list, problem, want)
		}
	}
}

// P24.1, P24.4: sources that are none, whatever else is wrong.
func TestNoSource(t *testing.T) {
	for source, want := range map[string]api.Problem{
		"":                                   {Code: api.ErrMain},
		"fn f() { }":                         {Code: api.ErrMain},
		"fn main() { x = 1; }":               {Code: api.ErrUnseen, At: 12},
		"fn main() { @1; }":                  {Code: api.ErrHook, At: 12},
		"fn main() { print 1 + true; }":      {Code: api.ErrType, At: 22},
		"fn main() { print $; }":             {Code: api.ErrByte, At: 18},
		"fn main() { print 1":                {Code: api.ErrToken, At: 19},
		"fn main() { } fn main() { }":        {Code: api.ErrTwice, At: 14},
		"fn f(): int { } fn main() { }":      {Code: api.ErrReturn},
		"fn main() { break; }":               {Code: api.ErrLoop, At: 12},
		"fn main() { var a: int = 01; }":     {Code: api.ErrNumber, At: 25},
		"fn main() { print \"a; }":           {Code: api.ErrText, At: 18},
		strings.Repeat(" ", 20001):           {Code: api.ErrSize, At: 20000},
		"fn main() { }\n\xff\n# a comment\n": {Code: api.ErrByte, At: 14},
	} {
		for _, l := range []api.Limits{enough, {}, {Depth: 1001}} {
			for _, budget := range []int{0, 1000, api.MaxBudget + 1} {
				refused(t, source, nil, l, budget, want)
				refused(t, source, make([]int64, 1001), l, budget, want)
			}
		}
	}
}

// P24.1: sources that are cut, or in which a byte is another one, are taken just if Build takes them.
func TestSpoiltSources(t *testing.T) {
	taken, not := 0, 0
	try := func(source string) {
		_, want := events.Build(source)
		s, problem := Start(source, []int64{3}, enough, 1000)
		if problem != want || (s != nil) != (want.Code == api.OK) {
			t.Fatalf("P24.1: Start(%q) = %v, %+v, want %+v", source, s, problem, want)
		}
		if s == nil {
			not++
			return
		}
		taken++
		if r := s.Do("step"); r.Status != api.OK || r.Stop.At != 2 {
			t.Fatalf("%q: %+v", source, r)
		}
	}
	for n := range len(adding) {
		try(adding[:n])
		try(adding[:n] + adding[n+1:])
		for _, b := range []byte("; a\n\x00}") {
			try(adding[:n] + string([]byte{b}) + adding[n+1:])
		}
	}
	if taken == 0 || not == 0 {
		t.Errorf("%d taken, %d not", taken, not)
	}
}

// P24.1: inputs, limits and budgets that may not be, in their order, and those at the edge that may.
func TestStartEdges(t *testing.T) {
	wrong := api.Problem{Code: api.ErrArg}
	for _, budget := range []int{1000, api.MaxBudget + 1, math.MaxInt} {
		for _, l := range []api.Limits{{}, {Depth: 0, Cells: 5}, {Depth: -1}, {Depth: 1001}, {Depth: math.MaxInt}, {Depth: 1, Cells: -1}, {Depth: 1, Cells: 100001}, {Depth: 1, Cells: math.MinInt}} {
			refused(t, adding, nil, l, budget, wrong)
		}
		refused(t, adding, make([]int64, 1001), enough, budget, wrong)
	}
	for _, budget := range []int{api.MaxBudget + 1, api.MaxBudget + 2, math.MaxInt32, math.MaxInt} {
		refused(t, adding, nil, enough, budget, api.Problem{Code: api.ErrSize})
	}
	built, _ := events.Build(adding)
	for _, l := range []api.Limits{{Depth: 1}, {Depth: 1000, Cells: 100000}} {
		for _, budget := range []int{math.MinInt, -1, 0, 1, api.MaxBudget - 1, api.MaxBudget} {
			if _, errno := monitor.New(built, make([]int64, 1000), l, budget); errno != api.OK {
				t.Fatalf("monitor: %d", errno)
			}
			s := sessionOf(t, adding, l, budget, make([]int64, 1000)...)
			asks(t, s, told{"where", 0, stands(0), "no frames"}, told{"points", 0, stands(0), "no points"})
			if budget < 1 {
				asks(t, s, told{"step", api.ErrBudget, stopAt(api.StopBudget, 0), "at 0: budget"}, told{"continue", api.ErrBudget, stopAt(api.StopBudget, 0), "at 0: budget"}, told{"goto 1", api.ErrBudget, stopAt(api.StopBudget, 0), "at 0: budget"}, told{"goto 0", 0, stopAt(api.StopGoto, 0), "at 0: goto"})
			}
		}
	}
}

// noCommands are lines that are none.
func noCommands() []string {
	all := []string{"", " ", "\t", "jump", "at", "Step", "STEP", "steps", "ste", "step 1", "step\n", "\nstep", "step\nstep", "step\r", "\rstep", "step;", "where where", "goto", "goto -0", "goto +1", "goto 01", "goto 1 2", "goto x", "goto 9223372036854775808", "delete", "delete -1", "delete x", "enable", "disable 1 2", "break", "break 0", "break 02", "break if", "break 2 if", "break 2 x", "break a b", "break 2 if\n1", "watch", "watch 2", "watch while", "watch x if", "print", "print\n1", "print 1\n", "points 1", "output #", "#", "# step", "\x00", "\xff", "st\xffep", "step\x00", "ｓｔｅｐ", strings.Repeat(" ", 301), strings.Repeat("step ", 100), "step" + strings.Repeat(" ", 297), "print " + strings.Repeat("1", 295)}
	for b := range 256 {
		all = append(all, string([]byte{byte(b)}))
	}
	return all
}

// P0.8, P24.2: a line that is no command is answered by ErrCommand and nothing else, and changes nothing, wherever the session stands.
func TestNoCommands(t *testing.T) {
	r := plainly(t, adding, enough, 100, 3)
	for place := range r.places() {
		p := r.known(t, []string{"break 2", "watch x if x == 3"})
		p.comes(min(place, r.last()), place > r.last())
		for n, line := range noCommands() {
			if told, _ := p.does(line); !same(told, api.Response{Status: api.ErrCommand}) {
				t.Errorf("P24.2: %q: %+v", line, told)
			}
			if n%20 == 0 {
				p.does("locals")
				p.does("output")
			}
		}
		p.asks()
		for _, line := range movements {
			p.does(line)
			p.asks()
		}
	}
}

// P24.2: what is refused has nothing but its status, and changes nothing, wherever the session stands.
func TestRefusals(t *testing.T) {
	r := plainly(t, adding, enough, 100, 3)
	for place := range r.places() {
		p := r.known(t, []string{"break 2", "watch x if x == 3", "disable 2"})
		p.comes(min(place, r.last()), place > r.last())
		at, over := p.plain.at, p.plain.over
		for line, want := range map[string]api.Errno{"delete 3": api.ErrPoint, "delete 0": api.ErrPoint, "enable 9223372036854775807": api.ErrPoint, "disable 33": api.ErrPoint, "break 2 if": api.ErrCommand, "break 2 if a +": api.ErrExpr, "watch x if \"": api.ErrExpr, "break add if 1 1": api.ErrExpr, "print 1 +": api.ErrToken, "print q": api.ErrUnseen, "print 1 + true": api.ErrType, "print 1 / 0": api.ErrTrap, "print \"\"[0]": api.ErrTrap, "print add(1, 2)": api.ErrExpr, "print new int[1]": api.ErrExpr, "print ~": api.ErrByte, "print 01": api.ErrNumber, "print \"": api.ErrText, "print " + strings.Repeat("x", 25): api.ErrName, "print " + strings.Repeat("-", 99) + "1": api.ErrDeep} {
			if told, _ := p.does(line); !same(told, api.Response{Status: want}) || told.Lines != nil {
				t.Errorf("P24.2: %q at %d: %+v, want %d", line, p.plain.at, told, want)
			}
		}
		for _, line := range movements {
			told, _ := p.does(line)
			if told.Status == api.ErrOver || told.Status == api.ErrStart {
				if told.Lines != nil || told.Stop != (api.Stop{}) || p.plain.at != at || p.plain.over != over {
					t.Errorf("P24.2: %q at %d: %+v", line, at, told)
				}
				p.asks()
			}
			p.comes(at, over)
		}
	}
}

// P24.7: a Session that Start has not made has nothing to go through; no call of it panics.
func TestZeroSession(t *testing.T) {
	lines := append(noCommands(), asking...)
	lines = append(lines, movements...)
	lines = append(lines, "goto 3", "goto -3", "goto 0", "break 1", "break main if true", "watch x", "disable 1", "enable 1", "points", "delete 1")
	for _, line := range lines {
		var s Session
		for range 2 {
			s.Do(line)
			s.Do("rcontinue")
			s.Do("points")
		}
		if s.At() != 0 {
			t.Fatalf("%q: the zero session has moved", line)
		}
	}
}
