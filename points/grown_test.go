package points

import (
	"math/rand"
	"slices"
	"strings"
	"testing"

	"retrace/api"
)

// rounds are so many, or few of them where the tests are to be short.
func rounds(count int) int {
	if testing.Short() {
		return count / 20
	}
	return count
}

// grower makes points, programs, events and what can be seen behind them, over few names, so that they meet often.
type grower struct {
	*rand.Rand
	checked []api.Program
}

func newGrower(seed int, programs []api.Program) *grower {
	return &grower{Rand: rand.New(rand.NewSource(int64(seed))), checked: programs}
}

func somePrograms(t *testing.T) []api.Program {
	var list []api.Program
	for _, text := range []string{
		sample,
		"fn f() { } fn g(a: int,\n b: bool) { }\nfn main() {\n f();\n g(1, true); }",
		"fn main() { var a: int = 1;\n var b: int = a; }\nfn f(x: [int], a: text, b: int) { x[0] = b;\n print a; }",
		"\n\nfn g(main: int) { main = 2; }\n\nfn main() { g(\n1); g(2); }\n",
	} {
		list = append(list, checked(t, text))
	}
	return list
}

func pick[T any](g *grower, list ...T) T {
	return list[g.Intn(len(list))]
}

func (g *grower) name() string { return pick(g, "f", "g", "main", "a", "b", "x") }

func (g *grower) point() api.Point {
	p := pick(g, onLine(1+g.Intn(6), ""), onCall(pick(g, "f", "g", "main"), ""), onChange(pick(g, "a", "b", "x"), ""))
	p.Cond = pick(g, "", "", "", "true", "a > 0", "b", "a[0] == 1", "len(x) == 2", "a == a", "x == 0 || b")
	p.Off = g.Intn(6) == 0
	if g.Intn(5) > 0 {
		return p
	}
	switch g.Intn(6) {
	case 0:
		p.Kind = api.PointKind(g.Intn(6) - 1)
	case 1:
		p.Line = g.Intn(3) - 1
	case 2:
		p.Name = pick(g, "", "if", "a ", "9", g.name())
	case 3:
		p.Cond = pick(g, " ", "a +", "f(1", "$")
	case 4:
		p.Cond = "true" + strings.Repeat(" ", api.MaxLine-4+g.Intn(2))
	case 5:
		p = api.Point{Kind: p.Kind}
	}
	return p
}

// program is a checked one, or one that is not: with another text, or with its nodes out of order, or some of them gone.
func (g *grower) program() api.Program {
	p := pick(g, g.checked...)
	if g.Intn(2) == 0 {
		return p
	}
	nodes := slices.Clone(p.Tree.Nodes)
	switch g.Intn(4) {
	case 0:
		p.Text = pick(g, "", "\n", p.Text[:g.Intn(len(p.Text))], strings.Repeat("\n", 100))
	case 1:
		g.Shuffle(len(nodes), func(i, j int) { nodes[i], nodes[j] = nodes[j], nodes[i] })
	case 2:
		nodes = nodes[:g.Intn(len(nodes)+1)]
	case 3:
		nodes[g.Intn(len(nodes))] = api.Node{Kind: api.Kind(g.Intn(5)), Name: g.name(), At: g.Intn(150) - 20}
	}
	p.Tree.Nodes = nodes
	return p
}

func (g *grower) event(p api.Program) api.Event {
	e := api.Event{Kind: pick(g, api.EvStmt, api.EvStmt, api.EvCall, api.EvSet, api.EvSet, api.EvTouch, api.EventKind(g.Intn(11)-1)), Node: g.Intn(len(p.Tree.Nodes)+2) - 1, Name: g.name()}
	var fits []int
	for n, node := range p.Tree.Nodes {
		if node.Kind == api.KFunc && e.Kind == api.EvCall || node.Kind == api.KParam && e.Kind == api.EvSet {
			fits = append(fits, n)
		}
	}
	if len(fits) > 0 && g.Intn(4) > 0 {
		e.Node = pick(g, fits...)
		e.Name = pick(g, p.Tree.Nodes[e.Node].Name, e.Name)
	}
	return e
}

func (g *grower) frames() []api.Frame {
	var frames []api.Frame
	for range g.Intn(3) {
		var vars []api.Shown
		for range g.Intn(4) {
			vars = append(vars, pick(g,
				api.Shown{Var: api.Var{Name: "a", Type: "int"}, Value: number(int64(g.Intn(3)))},
				api.Shown{Var: api.Var{Name: "a", Type: "[int]"}, Value: api.Value{Kind: api.ValRef, Int: int64(g.Intn(3))}},
				api.Shown{Var: api.Var{Name: "b", Type: "bool"}, Value: api.Value{Kind: api.ValBool, Int: int64(g.Intn(2))}},
				api.Shown{Var: api.Var{Name: "x", Type: "text"}, Value: api.Value{Kind: api.ValText, Text: pick(g, "", "ab")}},
				api.Shown{Var: api.Var{Name: "x", Type: "int"}, Value: number(int64(g.Intn(2)))},
			))
		}
		frames = append(frames, api.Frame{Func: g.Intn(3), Node: g.Intn(9), Vars: vars})
	}
	return frames
}

func (g *grower) arrays() [][]api.Value {
	return pick(g, nil, [][]api.Value{nil, {number(1)}}, [][]api.Value{nil, {number(2)}, {number(1), number(1)}})
}

// P20.1 to P20.4: any calls, one behind the other, are answered as by the table that was written out a second time.
func TestGrown(t *testing.T) {
	told := make(map[string]int)
	programs := somePrograms(t)
	for seed := range rounds(2000) {
		g := newGrower(seed, programs)
		table, model := New(), new(plain)
		often := g.Intn(12) // the more seldom points are deleted, the fuller the table
		for step := range 150 {
			n := g.Intn(len(model.points)+3) - 1
			switch g.Intn(6 + often) {
			case 0:
				if got, want := table.Delete(n), model.delete(n); got != want {
					t.Fatalf("seed %d, step %d: Delete(%d) = %d, want %d", seed, step, n, got, want)
				}
			case 1:
				off := g.Intn(2) == 0
				if got, want := table.Turn(n, off), model.turn(n, off); got != want {
					t.Fatalf("seed %d, step %d: Turn(%d) = %d, want %d", seed, step, n, got, want)
				}
			case 2:
				got, errno := table.Get(n)
				if want, wanted := model.get(n); got != want || errno != wanted {
					t.Fatalf("seed %d, step %d: Get(%d) = %+v, %d, want %+v, %d", seed, step, n, got, errno, want, wanted)
				}
			case 3, 4, 5:
				p := g.program()
				e, frames, arrays := g.event(p), g.frames(), g.arrays()
				got, want := table.Match(p, e, frames, arrays), model.match(p, e, frames, arrays)
				if got != want {
					t.Fatalf("seed %d, step %d: Match(%+v) = %d, want %d", seed, step, e, got, want)
				}
				if want > 0 {
					told["kind "+string(rune('0'+model.points[want-1].Kind))]++
				}
			default:
				p := g.point()
				got, errno := table.Add(p)
				want, wanted := model.add(p)
				if got != want || errno != wanted {
					t.Fatalf("seed %d, step %d: Add(%+v) = %d, %d, want %d, %d", seed, step, p, got, errno, want, wanted)
				}
				told["add "+string(rune('0'+errno%100))]++
			}
			if got := table.Numbers(); !slices.Equal(got, model.numbers()) {
				t.Fatalf("seed %d, step %d: Numbers = %v, want %v", seed, step, got, model.numbers())
			}
		}
	}
	for _, what := range []string{"kind 1", "kind 2", "kind 3", "add 0", "add 1", "add 2", "add " + string(rune('0'+api.ErrExpr%100))} {
		if told[what] < rounds(2000) {
			t.Errorf("%s came only %d times", what, told[what])
		}
	}
}

// P20.5: points are apart.
func TestApart(t *testing.T) {
	changed := 0
	programs := somePrograms(t)
	for seed := range rounds(20000) {
		g := newGrower(seed, programs)
		table, model := New(), new(plain)
		for range 1 + g.Intn(10) {
			p := g.point()
			table.Add(p)
			model.add(p)
		}
		p := g.program()
		e, frames, arrays := g.event(p), g.frames(), g.arrays()
		match := func() int { return table.Match(p, e, frames, arrays) }
		least := 0
		for _, n := range table.Numbers() {
			point, _ := table.Get(n)
			if alone := of(t, point); alone.Match(p, e, frames, arrays) == 1 && least == 0 {
				least = n
			}
		}
		before := match()
		if before != least {
			t.Fatalf("seed %d: Match = %d, by tables with one point each %d", seed, before, least)
		}
		added, errno := table.Add(g.point())
		behind := match()
		if errno == api.OK && behind != before && (before != 0 || behind != added) || errno != api.OK && behind != before {
			t.Fatalf("seed %d: Match = %d, with one point more %d", seed, before, behind)
		}
		for _, n := range table.Numbers() {
			point, _ := table.Get(n)
			table.Turn(n, true)
			if got := match(); behind != n && got != behind || behind == n && got != 0 && got <= n {
				t.Fatalf("seed %d: Match = %d, with the point %d off %d", seed, behind, n, got)
			}
			table.Turn(n, point.Off)
			if got := match(); got != behind {
				t.Fatalf("seed %d: Match = %d, with the point %d turned back %d", seed, behind, n, got)
			}
		}
		for _, n := range table.Numbers() {
			told := match()
			table.Delete(n)
			if got := match(); told != n && got != told || told == n && got != 0 && got <= n {
				t.Fatalf("seed %d: Match = %d, with the point %d gone %d", seed, told, n, got)
			} else if got != told {
				changed++
			}
		}
	}
	if changed < rounds(2000) {
		t.Errorf("only %d deletions changed an answer", changed)
	}
}
