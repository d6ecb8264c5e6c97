package monitor

import (
	"testing"

	"retrace/api"
)

const endless = "fn main() { var x: int = 2; print x; while true { } }"

// someRuns are runs that end, trap in each way, and go on for ever; of every kind of event.
func someRuns(t testing.TB) []*plainRun {
	most := 60
	return []*plainRun{
		plainly(t, "fn main() { }", enough, most),
		plainly(t, endless, enough, most),
		plainly(t, adding, enough, most, 3),
		plainly(t, adding, enough, most, 1),
		plainly(t, adding, enough, most),
		plainly(t, adding, api.Limits{Depth: 9, Cells: 3}, most, 3),
		plainly(t, adding, api.Limits{Depth: 1, Cells: 9}, most, 3, 4),
		plainly(t, "fn main() { var x: int = 1 / 0; }", enough, most),
		plainly(t, "fn f(x: int) { f(x + 1); } fn main() { f(1); }", enough, most),
		plainly(t, "fn main() { return; }", enough, most),
		plainly(t, "fn t(x: int): text { if x < 1 { return \"\"; }\nreturn t(x - 1) + str(x); }\nfn main() { for i = 1 to 3 { print t(i), i; }\n{ var a: text = \"w\"; while true { a = a + a; } } }", enough, 200),
		plainly(t, "fn main() { var a: [[int]] = new [int][2]; var x: int = 0;\nout: while true {\na[x % 2] = new int[x];\nif x > 0 { read a[x % 2][x - 1]; }\nx = x + 1; if x == 5 { break out; } }\nprint x; }", enough, 100, 7, 8, 9),
	}
}

// somePoints are tables of points, of which the runs meet some.
func somePoints() [][]api.Point {
	return [][]api.Point{
		nil,
		{onLine(2, "")},
		{onLine(1, "")},
		{onChange("x", "x > 2"), onCall("main", "")},
		{onChange("a", ""), onLine(2, "a + b == 43"), onCall("add", "")},
		{onLine(9, "len(a) == 3 && a[1] == 43"), onCall("f", "x == 7"), onCall("t", "x == 0"), onChange("a", "a == \"ww\""), onLine(4, "len(a[1]) == 1 && a[1][0] == 7")},
		{onChange("none", ""), {Kind: api.PtLine, Line: 2, Off: true}, onLine(2, "true"), onLine(2, "")},
	}
}

// known is the pair of a run with points, at a place from which the budget leads to the next event.
func (r *plainRun) known(t testing.TB, list []api.Point, at int, over bool) *pair {
	t.Helper()
	p := r.pair(t, 1000)
	for _, point := range list {
		p.adds(point)
	}
	p.comes(at, over)
	return p
}

// places are those of the run that are known: its positions, and the end as the one behind the last.
func (r *plainRun) places() int {
	if r.ends {
		return r.last() + 2
	}
	return r.last() + 1
}

var movements = []api.CommandKind{api.CmStep, api.CmNext, api.CmFinish, api.CmContinue, api.CmBack, api.CmRnext, api.CmRfinish, api.CmRcontinue}

// P22.2 to P22.6, P22.8: every command from every place of a run, with points and without.
func TestEveryPlace(t *testing.T) {
	for _, r := range someRuns(t) {
		for _, list := range somePoints() {
			p := r.known(t, list, 0, false)
			for place := range r.places() {
				at, over := min(place, r.last()), place > r.last()
				for _, kind := range movements {
					p.comes(at, over)
					if !p.does(kind).unknown {
						p.stands()
					}
				}
			}
		}
	}
}

// P22.6: from every place to every other one, and beyond.
func TestEveryGoto(t *testing.T) {
	for _, r := range someRuns(t) {
		p := r.known(t, []api.Point{onLine(1, ""), onLine(2, ""), onChange("x", ""), onCall("main", "")}, 0, false)
		for place := range r.places() {
			at, over := min(place, r.last()), place > r.last()
			for to := -1; to <= r.last()+2; to++ {
				p.comes(at, over)
				if !p.goesTo(to).unknown {
					p.stands()
				}
			}
		}
	}
}

// P22.3, P22.6: from every place with every budget up to one that leads to the end.
func TestEveryBudget(t *testing.T) {
	for n, r := range someRuns(t) {
		most := r.marks[r.last()] + 2
		if r.ends {
			most = r.end.Steps + 1
		}
		for budget := -1; budget <= min(most, 150); budget++ {
			for _, list := range somePoints()[:4] {
				p := r.pair(t, budget)
				for _, point := range list {
					p.adds(point)
				}
				for turn := range 30 {
					want := p.moves([]api.Command{{Kind: api.CmStep}, {Kind: api.CmContinue}, {Kind: api.CmNext}, {Kind: api.CmFinish}, {Kind: api.CmGoto, N: p.plain.at + turn%5 + 1}}[(turn+n)%5])
					if want.unknown || want.errno == api.ErrOver {
						break
					}
					p.stands()
				}
			}
		}
	}
}

// P22.2 to P22.7, P22.9: every short list of commands.
func TestEveryList(t *testing.T) {
	long := 3
	if testing.Short() {
		long = 2
	}
	everyList(t, plainly(t, adding, enough, 100, 3), 1000, long, nil)
	everyList(t, plainly(t, "fn main() { var x: int = 1 / 0; }", enough, 100), 4, long, nil)
	everyList(t, plainly(t, endless, enough, 100), 7, long, nil)
}

func everyList(t *testing.T, r *plainRun, budget, long int, list []api.Command) {
	p := r.pair(t, budget)
	for _, c := range list {
		if c.Kind < api.CmStep {
			p.sets(c)
		} else {
			p.moves(c)
		}
	}
	p.stands()
	if len(list) == long {
		return
	}
	for _, kind := range movements {
		everyList(t, r, budget, long, append(list[:len(list):len(list)], api.Command{Kind: kind}))
	}
	for _, c := range []api.Command{{Kind: api.CmGoto, N: 5}, {Kind: api.CmGoto, N: 40}, {Kind: api.CmBreak, Point: onLine(2, "")}, {Kind: api.CmWatch, Point: onChange("x", "x == 2")}, {Kind: api.CmDisable, N: 1}, {Kind: api.CmDelete, N: 1}} {
		everyList(t, r, budget, long, append(list[:len(list):len(list)], c))
	}
}
