package session

import (
	"fmt"
	"testing"

	"retrace/api"
)

const endless = "fn main() { var x: int = 2; print x; while true { } }"

// someRuns are runs that end, trap in each way, and go on for ever; of every kind of event.
func someRuns(t testing.TB) []*plainRun {
	most := 60
	return []*plainRun{
		plainly(t, "fn main() { }", enough, most),
		plainly(t, endless, enough, most),
		plainly(t, adding, enough, most, 3),
		plainly(t, adding, enough, most, 1),
		plainly(t, adding, enough, most),
		plainly(t, adding, api.Limits{Depth: 9, Cells: 3}, most, 3),
		plainly(t, adding, api.Limits{Depth: 1, Cells: 9}, most, 3, 4),
		plainly(t, "fn main() { var x: int = 1 / 0; }", enough, most),
		plainly(t, "fn f(x: int) { f(x + 1); }\n\nfn main() { f(1); }", enough, most),
		plainly(t, "fn main() { return; }", enough, most),
		plainly(t, "fn t(x: int): text { if x < 1 { return \"\\n\"; }\nreturn t(x - 1) + str(x); }\nfn main() { for i = 1 to 3 { print t(i), i; }\n{ var a: text = \"w\"; while true { a = a + a; } } }", enough, 200),
		plainly(t, "fn main() { var a: [[int]] = new [int][2]; var x: int = 0;\nout: while true {\na[x % 2] = new int[x];\nif x > 0 { read a[x % 2][x - 1]; }\nx = x + 1; if x == 5 { break out; } }\nprint x; }", enough, 100, 7, 8, 9),
		plainly(t, "fn f() { g(); } fn g() { print \"deep\"; }\nfn main() {\nf(); var x: bool = true; { var x: text = \"\\\\\"; g(); }\nvar a: [[[[text]]]] = new [[[text]]][1]; a[0] = new [[text]][18]; a[0][17] = new [text][1]; a[0][17][0] = new text[1]; f(); }", enough, 100),
	}
}

// somePoints are lists of lines that set points, of which the runs meet some.
func somePoints() [][]string {
	return [][]string{
		nil,
		{"break 2"},
		{"break 1 if x == 2", "break 1"},
		{"watch x if x > 2", "break main"},
		{"watch a", "break 2 if a + b == 43", "break add"},
		{"break 9 if len(a) == 3 && a[1] == 43", "break f if x == 7", "break t if x == 0", "watch a if a == \"ww\"", "break 4 if len(a[1]) == 1 && a[1][0] == 7", "break g"},
		{"watch none", "break 2", "disable 2", "break 2 if true", "break 2"},
	}
}

// known is the pair of a run with points, with a budget that leads anywhere.
func (r *plainRun) known(t testing.TB, points []string) *pair {
	t.Helper()
	p := r.pair(t, 1000)
	for _, line := range points {
		p.does(line)
	}
	return p
}

var movements = []string{"step", "next", "finish", "continue", "back", "rnext", "rfinish", "rcontinue"}

// P0.8, P24.2, P24.3: whatever is asked at every place of a run, its end among them.
func TestEveryAsking(t *testing.T) {
	for _, r := range someRuns(t) {
		p := r.known(t, nil)
		for place := range r.places() {
			p.comes(min(place, r.last()), place > r.last())
			p.asks()
		}
		for place := r.places() - 1; place >= 0; place-- {
			p.comes(min(place, r.last()), place > r.last())
			p.asks()
		}
	}
}

// P0.8, P24.2: every command that moves, from every place of a run, with points and without; and all that is shown where it leads.
func TestEveryMove(t *testing.T) {
	for _, r := range someRuns(t) {
		for _, list := range somePoints() {
			p := r.known(t, list)
			for place := range r.places() {
				for _, line := range movements {
					p.comes(min(place, r.last()), place > r.last())
					if _, unknown := p.does(line); !unknown {
						p.does("where")
						p.does("event")
					}
				}
			}
		}
	}
}

// P0.8, P24.2: from every place to every other one, and beyond.
func TestEveryGoto(t *testing.T) {
	for _, r := range someRuns(t) {
		p := r.known(t, []string{"break 1", "break 2", "watch x", "break main"})
		for place := range r.places() {
			for to := -1; to <= r.last()+2; to++ {
				p.comes(min(place, r.last()), place > r.last())
				p.does(fmt.Sprintf("goto %d", to))
			}
		}
	}
}

// P24.2: with every budget up to one that leads to the end: what is used up is told as it is, with the place that was reached.
func TestEveryBudget(t *testing.T) {
	lines := []string{"step", "continue", "next", "finish", "goto 3", "goto 99"}
	for n, r := range someRuns(t) {
		most := r.marks[r.last()] + 2
		if r.ends {
			most = r.end.Steps + 1
		}
		used := 0
		for budget := -1; budget <= min(most, 120); budget++ {
			for _, list := range somePoints()[:3] {
				p := r.pair(t, budget)
				for _, line := range list {
					p.does(line)
				}
				for turn := range 20 {
					told, unknown := p.does(lines[(turn+n)%len(lines)])
					if unknown || told.Status == api.ErrOver {
						break
					}
					if told.Status == api.ErrBudget {
						used++
					}
					p.does("where")
					p.does("output")
				}
			}
		}
		if used == 0 {
			t.Errorf("%q: no budget was used up", r.text)
		}
	}
}

// P0.8: every short list of lines.
func TestEveryList(t *testing.T) {
	long := 3
	if testing.Short() {
		long = 2
	}
	everyList(t, plainly(t, adding, enough, 100, 3), 1000, long, nil)
	everyList(t, plainly(t, "fn main() { var x: int = 1 / 0; }", enough, 100), 4, long, nil)
	everyList(t, plainly(t, endless, enough, 100), 7, long, nil)
}

func everyList(t *testing.T, r *plainRun, budget, long int, list []string) {
	p := r.pair(t, budget)
	for _, line := range list {
		if _, unknown := p.does(line); unknown {
			return
		}
	}
	p.asks()
	if len(list) == long {
		return
	}
	for _, line := range append([]string{"goto 5", "goto 40", "break 2", "watch x if x == 2", "disable 1", "delete 1"}, movements...) {
		everyList(t, r, budget, long, append(list[:len(list):len(list)], line))
	}
}

// P24.4: Script answers what a session answers to the lines, one behind the other.
func TestEveryScript(t *testing.T) {
	for _, r := range someRuns(t) {
		for n, list := range somePoints() {
			p := r.known(t, list)
			script := ""
			for _, line := range list {
				script += line + "\n"
			}
			var want []api.Response
			for turn := range 40 {
				line := movements[(turn*turn+n)%len(movements)]
				if turn%3 == 0 {
					line = asking[(turn+n)%len(asking)]
				}
				told, unknown := p.does(line)
				if unknown {
					break
				}
				want = append(want, told)
				script += line + "\n"
			}
			sameScript(t, r, script, len(list), want)
		}
	}
}

// sameScript holds the responses of a script, but for the first ones, against others.
func sameScript(t *testing.T, r *plainRun, script string, from int, want []api.Response) {
	t.Helper()
	got, problem := Script(r.text, r.input, r.limits, 1000, script)
	if problem != (api.Problem{}) || len(got) != from+len(want) {
		t.Fatalf("P24.4: %q: %d responses, %+v, want %d", script, len(got), problem, from+len(want))
	}
	for n, one := range got[from:] {
		if !same(one, want[n]) {
			t.Fatalf("P24.4: %q: response %d is %+v, want %+v", script, from+n+1, one, want[n])
		}
	}
}
