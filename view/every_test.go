package view

import (
	"math/rand"
	"strings"
	"testing"

	"retrace/api"
	"retrace/flow"
	"retrace/parse"
	"retrace/walk"
)

// hooked is the program of a source that may have hooks.
func hooked(t testing.TB, text string) api.Program {
	t.Helper()
	read, problem := parse.Program(text)
	if problem.Code != api.OK {
		t.Fatalf("%q is refused: %v", text, problem)
	}
	p, problem := flow.Tree(read)
	if problem.Code != api.OK {
		t.Fatalf("%q is refused: %v", text, problem)
	}
	return p
}

// smalls are programs in which much can be confused.
func smalls() []string {
	return []string{
		"fn main() { }",
		example,
		"fn f(a: int, b: text) { a = 1; { var a: bool = true; } } fn main() { f(1, \"\"); main(); }",
		"fn main() { var g: [int] = new int[2]; for i = 0 to 1 { g[i] = i; var i2: int = i; continue; } }",
		"fn main() { for j = 1 to 2 { for k = j to 2 { var j: int = k; read j; } } }",
		"fn main() { @1; var x: int = 1; @2 x; { @3; read x; @4 x; } @5; }",
		"fn f(n: [[int]]): [int] { if n == n { return n[0]; } else if true { n[0][1] = 2; } return @7 n[1]; } fn main() { var a: [int] = f(new [int][2]); read a[0]; }",
		"fn main() { var x: int = 1; while x > 0 { var y: int = x; { var x: int = y; x = 2; } if x == 1 { break; } else { y = 3; } } }",
		"fn g(): bool { { { return true; } } } fn main() { while g() { for i = 1 to 1 { { } } } return; }",
	}
}

func allValues() []api.Value {
	return []api.Value{{}, {Int: 1}, {Text: "x"}, i(0), i(1), i(-7), {Kind: api.ValInt, Int: 1, Text: "x"}, b(0), b(1), b(2), {Kind: api.ValBool, Text: "x"}, x(""), x("a"), x(strings.Repeat("x", 256)), x(strings.Repeat("x", 257)), {Kind: api.ValText, Int: 1}, r(0), r(1), r(-1), {Kind: api.ValRef, Text: "x"}, {Kind: 5}, {Kind: -1}}
}

// names are the empty one, all that stand in the program, and one that does not.
func names(p api.Program) []string {
	all := []string{"", "other"}
	met := map[string]int{"": 1}
	for _, node := range p.Tree.Nodes {
		if met[node.Name]++; met[node.Name] == 1 {
			all = append(all, node.Name)
		}
	}
	return all
}

// tryAll has a pair be offered every event there is, without going on; those that can follow are answered.
func (p pair) tryAll(t *testing.T) []api.Event {
	t.Helper()
	var can []api.Event
	twin := p.s.clone() // what is refused changes nothing in it
	words, values := names(p.s.p), allValues()
	for kind := api.EventKind(-1); kind <= 10; kind++ {
		for n := -1; n <= len(p.s.p.Tree.Nodes); n++ {
			for _, name := range words {
				for _, v := range values {
					e := api.Event{Kind: kind, Node: n, Name: name, Value: v}
					if twin.take(e) {
						can = append(can, e)
						twin = p.s.clone()
					} else if errno := p.v.Take(e); errno != api.ErrFold {
						t.Fatalf("behind %v: Take(%v) is %d", p.s.events, e, errno)
					}
				}
			}
		}
	}
	p.agrees(t) // nothing that was refused has changed anything
	for _, e := range can {
		next := p.clone()
		if !next.take(t, e) {
			t.Fatalf("%v", e)
		}
		next.agrees(t)
	}
	p.agrees(t) // nor has what a clone has taken
	return can
}

// P18.2, P18.5: at every state of the small programs' runs, and at states to which no run comes, every event is taken or refused as the chapter says, and becomes what it says.
func TestEveryEvent(t *testing.T) {
	rounds := 20
	if testing.Short() {
		rounds = 2
	}
	taken := map[api.EventKind]int{}
	for n, text := range smalls() {
		program := hooked(t, text)
		run, errno := walk.Run(program, []int64{1, 2, 3}, api.Limits{Depth: 3, Cells: 100}, 40)
		if errno != api.OK {
			t.Fatal(errno)
		}
		p := newPair(t, program)
		for _, e := range run.Events {
			p.tryAll(t)
			if !p.take(t, e) {
				t.Fatalf("%s: behind %v: %v is refused", text, p.s.events, e)
			}
		}
		p.tryAll(t)
		for round := range rounds {
			g := rand.New(rand.NewSource(int64(100*n + round)))
			p := newPair(t, program)
			for range 25 {
				can := p.tryAll(t)
				if len(can) == 0 {
					break
				}
				e := can[g.Intn(len(can))]
				for range 2 { // seldom what makes the frames fewer
					if e.Kind == api.EvLeave || e.Kind == api.EvReturn {
						e = can[g.Intn(len(can))]
					}
				}
				p.take(t, e)
				taken[e.Kind]++
			}
		}
	}
	for kind := api.EvStmt; kind <= api.EvTouch; kind++ {
		if taken[kind] == 0 && !testing.Short() {
			t.Errorf("event %d was never taken: %v", kind, taken)
		}
	}
}

// offered makes an event that has a good chance: of a node of a kind that fits, mostly with its name, and a value of its type.
func offered(g *rand.Rand, p api.Program, run []api.Event) api.Event {
	e := api.Event{Kind: api.EventKind(1 + g.Intn(8)), Node: g.Intn(len(p.Tree.Nodes))}
	if len(run) > 0 && g.Intn(2) == 0 {
		e = run[g.Intn(len(run))]
	}
	node := p.Tree.Nodes[e.Node]
	switch e.Kind {
	case api.EvCall:
		e.Name = node.Name
	case api.EvSet, api.EvTouch:
		if e.Name == "" {
			e.Name = node.Name
		}
		if g.Intn(3) > 0 {
			e.Value = allValues()[g.Intn(22)]
		}
	case api.EvReturn:
		e.Value = allValues()[g.Intn(22)]
	}
	switch g.Intn(30) {
	case 0:
		e.Name = names(p)[g.Intn(len(names(p)))]
	case 1:
		e.Value = allValues()[g.Intn(22)]
	case 2:
		e.Node = g.Intn(len(p.Tree.Nodes)+4) - 2
	case 3:
		e.Kind = api.EventKind(g.Intn(12) - 1)
	}
	return e
}

// P18.2: grown programs, and events among which are some of a run, some of none.
func TestStrayEvents(t *testing.T) {
	taken, refused := map[api.EventKind]int{}, map[api.EventKind]int{}
	for seed := range seeds(3000) {
		grown := grow(t, seed)
		run, _ := walk.Run(grown.program, grown.input, grown.limits, 150)
		g := rand.New(rand.NewSource(seed))
		p := newPair(t, grown.program)
		next := 0 // of the run
		for range 300 {
			var e api.Event
			if next < len(run.Events) && g.Intn(3) > 0 {
				e = run.Events[next]
				next++
			} else {
				e = offered(g, grown.program, run.Events)
			}
			if (e.Kind == api.EvLeave || e.Kind == api.EvReturn) && len(p.s.frames) == 1 && g.Intn(8) > 0 {
				continue // so that it does not end too soon
			}
			if p.take(t, e) {
				taken[e.Kind]++
			} else {
				refused[e.Kind]++
			}
			if g.Intn(4) == 0 {
				p.agrees(t)
			}
			if g.Intn(40) == 0 {
				p = p.clone()
			}
		}
		p.agrees(t)
	}
	for kind := api.EvStmt; kind <= api.EvTouch; kind++ {
		if taken[kind] < 10 || refused[kind] < 10 {
			t.Errorf("event %d: taken %d times, refused %d times", kind, taken[kind], refused[kind])
		}
	}
}
