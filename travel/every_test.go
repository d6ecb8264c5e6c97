package travel

import (
	"testing"

	"retrace/api"
)

// DOC.md's source.
const adding = `fn add(a: int, b: int): int {
  return a + b;
}
fn main() {
  var x: int = 2;
  read x;
  var a: [int] = new int[x];
  a[1] = add(x, 40);
  print x, a[1], "ok";
}
`

// someRuns are runs that end, trap in each way, and go on for ever; of every kind of event.
func someRuns(t testing.TB) []*plainRun {
	most := 60
	return []*plainRun{
		plainly(t, "fn main() { }", enough, most),
		plainly(t, endless, enough, most),
		plainly(t, adding, enough, most, 3),
		plainly(t, adding, enough, most, 1),
		plainly(t, adding, enough, most),
		plainly(t, adding, api.Limits{Depth: 9, Cells: 3}, most, 3),
		plainly(t, adding, api.Limits{Depth: 1, Cells: 9}, most, 3, 4),
		plainly(t, "fn main() { var x: int = 1 / 0; }", enough, most),
		plainly(t, "fn f(n: int) { f(n + 1); } fn main() { f(1); }", enough, most),
		plainly(t, "fn main() { return; }", enough, most),
		plainly(t, "fn t(n: int): text { if n < 1 { return \"\"; } return t(n - 1) + str(n); } fn main() { for i = 1 to 3 { print t(i), i; } { var s: text = \"w\"; while true { s = s + s; } } }", enough, 200),
		plainly(t, "fn main() { var l: [[int]] = new [int][2]; var n: int = 0; out: while true { l[n % 2] = new int[n]; if n > 0 { read l[n % 2][n - 1]; } n = n + 1; if n == 5 { break out; } } print n; }", enough, 100, 7, 8, 9),
	}
}

// P21.2 to P21.6: every short list of calls, from the beginning and from all positions, is answered as the chapter says.
func TestEveryCalls(t *testing.T) {
	long := 3
	if testing.Short() {
		long = 2
	}
	for _, text := range []string{"fn main() { }", "fn main() { print 1; }", endless, "fn main() { var x: int = 1 / 0; }"} {
		r := plainly(t, text, enough, 14)
		for every := range 4 {
			for begin := 0; begin <= min(r.last(), 8); begin++ {
				everyCalls(t, r, every, begin, long, nil)
			}
		}
	}
}

// everyCalls makes the calls that are listed, numbered by choice, and then every longer list.
func everyCalls(t *testing.T, r *plainRun, every, begin, long int, list []int) {
	p := r.pair(t, every)
	for p.plain.at < begin {
		p.forward(1000)
	}
	for _, choice := range list {
		p.choose(choice)
	}
	p.stands()
	p.seen(p.plain.at)
	p.seen(p.plain.far + 1)
	if len(list) < long {
		for choice := range choices {
			everyCalls(t, r, every, begin, long, append(list[:len(list):len(list)], choice))
		}
	}
}

const choices = 8

func (p *pair) choose(choice int) {
	p.Helper()
	switch at := p.plain.at; choice {
	case 0, 1, 2, 3:
		p.forward([]int{0, 1, 2, 1000}[choice])
	case 4:
		p.back(at)
	case 5:
		p.back(at - 1)
	case 6:
		p.back(at / 2)
	case 7:
		p.back(at + 1)
	}
}

// P21.3: at every position, and at the end, every budget from below 0 to beyond what the next event wants.
func TestEveryBudget(t *testing.T) {
	for _, r := range someRuns(t) {
		for _, every := range []int{0, 1, 3} {
			p := r.pair(t, every)
			for r.isKnown(p.plain.at) {
				before := p.plain
				for budget := -1; ; budget++ {
					errno := p.forward(budget)
					p.stands()
					if errno != api.ErrBudget {
						break
					}
					if p.plain != before {
						t.Fatalf("the plain engine has moved")
					}
				}
				if p.plain.over {
					break
				}
			}
			for _, budget := range []int{-1, 0, 1, api.MaxBudget} {
				if p.plain.over {
					p.forward(budget)
					p.stands()
				}
			}
		}
	}
}

// P21.4, P21.6, P21.7: from every position to every other one, and on to the next from there.
func TestEveryBack(t *testing.T) {
	for _, r := range someRuns(t) {
		for _, every := range []int{0, 1, 2, 3, 7, 20} {
			p := r.pair(t, every)
			for r.isKnown(p.plain.at) && !p.plain.over {
				p.forward(api.MaxBudget)
				here := p.plain
				for to := -1; to <= here.at+1; to++ {
					p.back(to)
					p.stands()
					if r.isKnown(p.plain.at) {
						p.forward(1)
						p.forward(api.MaxBudget)
						p.stands()
					}
					p.comes(here.at, here.over)
				}
			}
		}
	}
}

// comes brings the engine to a position that is known of the run, or to the end.
func (p *pair) comes(at int, over bool) {
	p.Helper()
	if p.plain.at > at || p.plain.over && !over {
		p.back(at)
	}
	for p.plain.at < at || over && !p.plain.over {
		p.forward(api.MaxBudget)
	}
}

// P21.5: an event stays told, wherever the engine stands.
func TestEverySeen(t *testing.T) {
	for _, r := range someRuns(t) {
		p := r.pair(t, 2)
		all := func() {
			for at := -2; at <= p.plain.far+2; at++ {
				p.seen(at)
			}
		}
		all()
		for r.isKnown(p.plain.at) && !p.plain.over {
			p.forward(api.MaxBudget)
			all()
			here := p.plain
			p.back(here.at / 2)
			all()
			p.comes(here.at, here.over)
		}
	}
}
