package events

import (
	"slices"
	"strings"
	"testing"

	"retrace/api"
	"retrace/compile"
	"retrace/flow"
	"retrace/hooks"
	"retrace/parse"
	"retrace/pretty"
	"retrace/scope"
	"retrace/types"
	"retrace/verify"
	"retrace/vm"
	"retrace/walk"
)

// frames tells how many calls have begun and not ended.
func frames(events []api.Event) int {
	count := 0
	for _, e := range events {
		switch e.Kind {
		case api.EvCall:
			count++
		case api.EvReturn, api.EvLeave:
			count--
		}
	}
	return count
}

// bare is the code of the program without hooks.
func (g grown) bare(t testing.TB) api.Code {
	t.Helper()
	c, errno := compile.Program(g.Program)
	if errno != api.OK {
		t.Fatalf("%s: %d", g.Program.Text, errno)
	}
	return c
}

// outputs tells what the walk has put out behind each number of events, and at its end, as far as so many Steps.
func (g grown) outputs(t testing.TB, steps int) []string {
	t.Helper()
	w, errno := walk.New(g.Program, g.input, g.limits)
	if errno != api.OK {
		t.Fatal(errno)
	}
	list := []string{""}
	for range steps {
		_, more := w.Step()
		list = append(list, w.Result().Output)
		if !more {
			break
		}
	}
	return list
}

// eventsAreMeant is P0.2, P17.5 and P17.8, of as many events as are asked for.
func eventsAreMeant(t *testing.T, g grown, most int) api.Run {
	t.Helper()
	walked := g.walked(t, most)
	over := walked.Outcome.Phase != api.Running
	count := len(walked.Events)
	bound := (count + 1) * (2*len(g.Code.Instrs) + 2)
	run, marks := g.run(t, min(bound, api.MaxBudget)), g.marks(t, min(bound, api.MaxBudget))
	for n, mark := range marks[:min(count, len(marks))] {
		if mark > (n+2)*(2*len(g.Code.Instrs)+2) {
			t.Fatalf("%s: event %d comes at %d", g.Program.Text, n+1, mark)
		}
	}
	if bound <= api.MaxBudget && (!begins(walked.Events, run.Events) || over && (!endsAlike(run, walked) || len(run.Events) > count)) {
		t.Fatalf("%s, %v, %v: %v, want %v", g.Program.Text, g.input, g.limits, run, walked)
	}
	for n, e := range run.Events {
		if e.Node < 0 || e.Node >= len(g.Program.Tree.Nodes) || g.Program.Tree.Nodes[e.Node].Kind == api.KHook || e.Kind < api.EvStmt || e.Kind > api.EvTouch {
			t.Fatalf("%s: event %d is %v", g.Program.Text, n+1, e)
		}
	}
	return walked
}

// stopsAreMeant is P0.2 of a run that is stopped behind each instruction.
func stopsAreMeant(t *testing.T, g grown, steps int) {
	t.Helper()
	walked := g.walked(t, steps+1)
	outputs := g.outputs(t, steps+2)
	m, _ := vm.New(g.Code, g.input, g.limits)
	count := 0
	for range steps {
		if y, yields := m.Step(); yields {
			e, errno := Read(g.Table, y)
			if errno != api.OK || count >= len(walked.Events) || e != walked.Events[count] {
				t.Fatalf("%s: event %d is %v, want %v", g.Program.Text, count+1, e, walked.Events)
			}
			count++
		}
		run := m.Result()
		if run.Output != outputs[count] && (count+1 >= len(outputs) || run.Output != outputs[count+1]) {
			t.Fatalf("%s: behind %d events %q", g.Program.Text, count, run.Output)
		}
		if run.Outcome.Phase != api.Running {
			if !endsAlike(run, walked) || count != len(walked.Events) {
				t.Fatalf("%s: %v behind %d events, want %v", g.Program.Text, run, count, walked)
			}
			return
		}
	}
}

// hooksChangeNothing is P0.1 and P0.3, of so many instructions without hooks.
func hooksChangeNothing(t *testing.T, g grown, steps int) {
	t.Helper()
	m, errno := vm.New(g.bare(t), g.input, g.limits)
	if errno != api.OK {
		t.Fatal(errno)
	}
	most := 4*steps + 8
	walked := g.walked(t, most+1)
	for range steps {
		if _, yields := m.Step(); yields || !strings.HasPrefix(walked.Output, m.Result().Output) {
			t.Fatalf("%s, %v, %v: %q, want %q", g.Program.Text, g.input, g.limits, m.Result().Output, walked.Output)
		}
	}
	run := m.Result()
	with := g.run(t, 4*run.Steps+8)
	if run.Outcome.Phase == api.Running {
		if early := g.run(t, run.Steps); early.Outcome.Phase != api.Running {
			t.Fatalf("%s: it ends with hooks alone: %v", g.Program.Text, early)
		}
		return
	}
	if !endsAlike(run, walked) || !endsAlike(run, with) || with.Steps < run.Steps {
		t.Fatalf("%s, %v, %v: %v, with hooks %v, want %v", g.Program.Text, g.input, g.limits, run, with, walked)
	}
}

// trapsHaveReasons is what P0.5 and P0.10 say of a run's end.
func trapsHaveReasons(t *testing.T, g grown, run api.Run) {
	t.Helper()
	switch trap := run.Outcome.Trap; {
	case trap == api.TrapStuck:
		t.Fatalf("%s: stuck", g.Program.Text)
	case trap == api.TrapInput && run.Input != len(g.input):
		t.Fatalf("%s: no number left behind %d of %d", g.Program.Text, run.Input, len(g.input))
	case trap == api.TrapDepth && frames(run.Events) != g.limits.Depth:
		t.Fatalf("%s: too deep with %d frames of %d", g.Program.Text, frames(run.Events), g.limits.Depth)
	case frames(run.Events) > g.limits.Depth:
		t.Fatalf("%s: %d frames", g.Program.Text, frames(run.Events))
	}
}

// P0.1, P0.2, P0.3, P0.10, P17.5, P17.8: what runs is what is meant.
func TestMeant(t *testing.T) {
	outcomes, kinds := map[api.Outcome]int{}, map[api.EventKind]int{}
	for seed := range seeds(1000) {
		g := grow(t, 10000+seed)
		walked := eventsAreMeant(t, g, 150)
		hooksChangeNothing(t, g, 250)
		trapsHaveReasons(t, g, walked)
		trapsHaveReasons(t, g, g.run(t, 2000))
		outcomes[walked.Outcome]++
		for _, e := range walked.Events {
			kinds[e.Kind]++
		}
	}
	// The test is worth something only if everything happens in it.
	for trap := api.TrapDivide; trap <= api.TrapLong; trap++ {
		if outcomes[trapped(trap)] < int(seeds(10)) {
			t.Errorf("trap %d came too seldom: %v", trap, outcomes)
		}
	}
	if outcomes[ended()] < int(seeds(50)) || outcomes[api.Outcome{}] < int(seeds(50)) {
		t.Errorf("too few runs ended, or went on: %v", outcomes)
	}
	for kind := api.EvStmt; kind <= api.EvTouch; kind++ {
		if kinds[kind] < int(seeds(100)) {
			t.Errorf("event %d came too seldom: %v", kind, kinds)
		}
	}
}

// P0.2: likewise, stopped anywhere.
func TestMeantAnywhere(t *testing.T) {
	for seed := range seeds(1500) {
		stopsAreMeant(t, grow(t, 20000+seed), 300)
	}
}

// P0.1 to P0.3: what the document names one by one: the order of things, short ways, loops of all kinds, traps in the midst of a statement.
func TestMeantPieces(t *testing.T) {
	for _, body := range []string{
		"", "return;", "{ }", "{ { } return; }", "print 1, \"a\", true;", "print 1; print 2; print 3;",
		"var x: int = 1 / 0;", "var x: int = 1; x = x % (x - 1);", "print 1 / 0, f(1);", "print f(1), 1 / 0;",
		"if f(1) > 1 && f(2) > 1 || f(3) > 1 { print 1; } else if f(4) == 5 { print 2; } else { print 3; }",
		"if true || 1 / 0 == 1 { print 1; }", "if false && 1 / 0 == 1 { } else { print 2; }",
		"a: while true { while true { break a; } }", "var i: int = 0; a: while i < 3 { i = i + 1; while true { continue a; } }",
		"for i = 1 to 0 { print i; }", "for i = 1 to 1 { print i; i = 9; print i; }", "for i = 9223372036854775806 to 9223372036854775807 { print i; }",
		"for i = f(1) to f(3) { for i = 1 to i { print i; } }", "a: for i = 1 to 3 { for j = 1 to 3 { if j == 2 { continue a; } if i == 3 { break a; } print i, j; } }",
		"for i = 1 to 2 { return; }", "while true { return; }", "while false { }", "for i = 1 to 3 { continue; } for i = 1 to 3 { break; }",
		"var a: [int] = new int[2]; a[f(0)] = f(1); a[f(4)] = f(2);", "var a: [int] = new int[2]; read a[0]; read a[2];", "var a: [[int]] = new [int][2]; a[0] = new int[1]; a[0][0] = 5; a[1][0] = 6;",
		"var a: [int] = new int[0 - 1];", "var a: [int] = new int[98]; a = new int[0]; a = new int[0];", "var x: int = 0; read x; read x; read x;",
		"var t: text = \"ab\"; print t[0], t[1], len(t); print t[2];", "var t: text = \"" + strings.Repeat("x", 200) + "\"; t = t + t;",
		"var a: [int] = new int[1]; var b: [int] = a; print a == b, a != b, a == new int[1], len(a);", "print str(1) + str(true) + str(\"x\") < \"1\";",
		"f(f(f(1))); k(); k();", "k(); return; k();", "print -f(1), !(f(1) == 2);", "deep(3); deep(20);", "print 1; main();",
	} {
		p := built(t, "fn f(n: int): int { return n + 1; } fn k() { if true { return; } print 0; } fn deep(n: int) { if n > 0 { deep(n - 1); } } fn main() { "+body+" }")
		for _, l := range []api.Limits{wide, {Depth: 1, Cells: 3}, {Depth: 2}, {Depth: 4, Cells: 99}} {
			for _, input := range [][]int64{nil, {1}, {1, 2, 3}} {
				g := grown{p, input, l}
				walked := eventsAreMeant(t, g, 400)
				stopsAreMeant(t, g, 400)
				hooksChangeNothing(t, g, 400)
				trapsHaveReasons(t, g, walked)
			}
		}
	}
}

// P0.3: where hooks cost the most, each instruction has two or three of them.
func TestHooksCost(t *testing.T) {
	for _, text := range []string{
		"fn main() { }",
		"fn main() { return; }",
		"fn main() { " + strings.Repeat("{ } ", 300) + "}",
		"fn main() { " + strings.Repeat("k(); ", 300) + "} fn k() { }",
		"fn main() { " + strings.Repeat("k(); ", 300) + "} fn k() { return; }",
		"fn main() { " + strings.Repeat("k(1, 2, 3, 4, 5, 6, 7, 8); ", 100) + "} fn k(a: int, b: int, c: int, d: int, e: int, f: int, g: int, h: int) { return; }",
		"fn main() { var n: int = 0; while true { while true { break; } n = n + 1; if n == 100 { return; } } }",
		"fn main() { " + strings.Repeat("while true { break; } ", 200) + "}",
		"fn main() { " + strings.Repeat("if true { } ", 200) + "}",
	} {
		g := grown{built(t, text), nil, wide}
		hooksChangeNothing(t, g, 3000)
		m, _ := vm.New(g.bare(t), nil, wide)
		m.Run(3000)
		if run := g.run(t, 4*m.Steps()+8); m.Result().Outcome != ended() || run.Outcome != ended() {
			t.Errorf("%.50s: %v, with hooks %v", text, m.Result().Outcome, run.Outcome)
		}
	}
}

// withoutPlaces is a tree's nodes without their Ats.
func withoutPlaces(nodes []api.Node) []api.Node {
	own := slices.Clone(nodes)
	for n := range own {
		own[n].At = 0
	}
	return own
}

// comesOut is P0.4 of a program.
func comesOut(t *testing.T, p Built) {
	t.Helper()
	hooked, table, errno := hooks.Instrument(p.Program)
	if errno != api.OK || !slices.Equal(table, p.Table) {
		t.Fatalf("%s: %d", p.Program.Text, errno)
	}
	erased, errno := hooks.Erase(hooked)
	if errno != api.OK || !slices.Equal(erased.Nodes, p.Program.Tree.Nodes) {
		t.Fatalf("%s: the tree does not come out again: %d", p.Program.Text, errno)
	}
	if count := hooks.Count(hooked); count != len(table) || count > 2*len(erased.Nodes)+2 {
		t.Fatalf("%s: %d hooks, %d rows, %d nodes", p.Program.Text, count, len(table), len(erased.Nodes))
	}
	if _, problem := flow.Tree(hooked); problem.Code != api.OK {
		t.Fatalf("%s: with hooks: %v", p.Program.Text, problem)
	}
	text, errno := pretty.Program(hooked)
	if errno != api.OK {
		t.Fatalf("%s: no text with hooks: %d", p.Program.Text, errno)
	}
	read, problem := parse.Program(text)
	if problem.Code != api.OK || !slices.Equal(withoutPlaces(read.Nodes), withoutPlaces(hooked.Nodes)) {
		t.Fatalf("%s: another tree: %v", text, problem)
	}
}

// P0.4: hooks come out again.
func TestComesOut(t *testing.T) {
	for seed := range seeds(1000) {
		comesOut(t, grow(t, 30000+seed).Built)
	}
	for _, text := range great() {
		comesOut(t, built(t, text))
	}
}

// isSafe is P0.5 of a program's codes.
func isSafe(t *testing.T, g grown) {
	t.Helper()
	for _, c := range []api.Code{g.Code, g.bare(t)} {
		if errno, at := verify.Check(c); errno != api.OK {
			t.Fatalf("%s: %d at %d", g.Program.Text, errno, at)
		}
	}
}

// P0.5: what compile gives passes verify.
func TestSafe(t *testing.T) {
	for seed := range seeds(1000) {
		isSafe(t, grow(t, 40000+seed))
	}
	for _, text := range great() {
		isSafe(t, grown{Built: built(t, text)})
	}
}

// spoilt is a code with a few of its instructions changed.
func (g *grower) spoilt(c api.Code) api.Code {
	c.Instrs = slices.Clone(c.Instrs)
	for range 1 + g.Intn(4) {
		in := &c.Instrs[g.Intn(len(c.Instrs))]
		switch g.Intn(5) {
		case 0:
			*in = c.Instrs[g.Intn(len(c.Instrs))]
		case 1:
			*in = api.Instr{}
		case 2:
			in.A = int64(g.Intn(len(c.Instrs)))
		case 3:
			in.A += int64(g.Intn(5) - 2)
		case 4:
			other := g.Intn(len(c.Instrs))
			*in, c.Instrs[other] = c.Instrs[other], *in
		}
	}
	return c
}

// P0.5: a code that passes verify never gets stuck, though no program has it.
func TestNeverStuck(t *testing.T) {
	passed, outcomes := 0, map[api.Outcome]int{}
	for seed := range seeds(400) {
		p := grow(t, 50000+seed)
		g := &grower{Rand: newRand(seed)}
		for range 20 {
			c := g.spoilt(p.Code)
			if errno, _ := verify.Check(c); errno != api.OK {
				continue
			}
			passed++
			for _, l := range []api.Limits{p.limits, wide, {Depth: 1}} {
				m, errno := vm.New(c, p.input, l)
				if errno != api.OK {
					t.Fatal(errno)
				}
				for range 50 {
					m.Run(100)
				}
				if outcomes[m.Result().Outcome]++; m.Result().Outcome.Trap == api.TrapStuck {
					t.Fatalf("%s: %v gets stuck", p.Program.Text, c.Instrs)
				}
			}
		}
	}
	if passed < int(seeds(500)) || len(outcomes) < 5 {
		t.Errorf("%d codes passed: %v", passed, outcomes)
	}
}

// P0.6: types are the typing rules, with hooks and without; no other list follows them.
func TestTyped(t *testing.T) {
	others := []string{"", "int", "bool", "text", "[int]", "[text]", "[[int]]", "none"}
	for seed := range seeds(800) {
		g := grow(t, 60000+seed)
		r := newRand(seed)
		hooked, _, _ := hooks.Instrument(g.Program)
		for _, tree := range []api.Tree{g.Program.Tree, hooked} {
			scoped, _ := scope.Resolve(tree)
			typing, problem := types.Check(tree, scoped)
			if problem.Code != api.OK {
				t.Fatal(g.Program.Text, problem)
			}
			if follows, at := types.Follows(tree, scoped, typing); !follows {
				t.Fatalf("%s: node %d breaks the rules", g.Program.Text, at)
			}
			for range 10 {
				list := slices.Clone(typing)
				for range 1 + r.Intn(2) {
					list[r.Intn(len(list))] = others[r.Intn(len(others))]
				}
				if follows, _ := types.Follows(tree, scoped, list); follows != slices.Equal(list, typing) {
					t.Fatalf("%s: %v follows the rules, and Check tells %v", g.Program.Text, list, typing)
				}
			}
		}
	}
}

// P0.6: where Check tells a problem, no list of types follows the rules.
func TestUntyped(t *testing.T) {
	refused := 0
	for seed := range seeds(6000) {
		g := &grower{Rand: newRand(seed)}
		text := changed(g.Rand, g.source())
		tree, problem := parse.Program(text)
		if problem.Code != api.OK {
			continue
		}
		scoped, problem := scope.Resolve(tree)
		if problem.Code != api.OK {
			continue
		}
		typing, problem := types.Check(tree, scoped)
		if problem.Code == api.OK {
			if follows, _ := types.Follows(tree, scoped, typing); !follows {
				t.Fatalf("%s: the types that Check tells don't follow the rules", text)
			}
			continue
		}
		refused++
		others := []string{"", "int", "bool", "text", "[int]"}
		list := make([]string, len(tree.Nodes))
		for range 20 {
			for n := range list {
				if tree.Nodes[n].Kind >= api.KInt {
					list[n] = others[g.Intn(len(others))]
				}
			}
			if follows, _ := types.Follows(tree, scoped, list); follows {
				t.Fatalf("%s: %v, but %q follows the rules", text, problem, list)
			}
		}
	}
	if refused < int(seeds(50)) {
		t.Errorf("only %d were refused", refused)
	}
}

// firstReason is what the first of the front's parts that refuses a text tells, each asked by itself.
func firstReason(text string) api.Problem {
	if len(text) > 20000 {
		return api.Problem{Code: api.ErrSize, At: 20000}
	}
	tree, problem := parse.Program(text)
	if problem.Code == api.OK && len(tree.Nodes) > 4000 {
		problem = api.Problem{Code: api.ErrSize, At: tree.Nodes[4000].At}
	}
	if problem.Code != api.OK {
		return problem
	}
	scoped, problem := scope.Resolve(tree)
	if problem.Code != api.OK {
		return problem
	}
	if _, problem = types.Check(tree, scoped); problem.Code != api.OK {
		return problem
	}
	return flow.Check(tree, false)
}

// P0.10: what the front refuses is refused by the first of its parts that does, at a place in the text; what it takes is taken by each.
func TestReasons(t *testing.T) {
	codes := map[api.Errno]int{}
	for seed := range seeds(5000) {
		g := &grower{Rand: newRand(70000 + seed), hooks: seed%4 == 0}
		text := g.source()
		if seed%5 > 0 {
			text = changed(g.Rand, text)
		}
		_, problem := flow.Front(text)
		if want := firstReason(text); problem != want || problem.At < 0 || problem.At > len(text) {
			t.Fatalf("%s: %v, want %v", text, problem, want)
		}
		codes[problem.Code]++
	}
	for _, errno := range []api.Errno{api.OK, api.ErrToken, api.ErrUnseen, api.ErrTwice, api.ErrType, api.ErrHook, api.ErrReturn} {
		if codes[errno] < int(seeds(10)) {
			t.Errorf("error %d came too seldom: %v", errno, codes)
		}
	}
	for _, text := range great() {
		for _, other := range []string{text, text + " ", text + "}", strings.Replace(text, "{", "{ var q: int = true;", 1), strings.Replace(text, "{", "{ @1;", 1), strings.Replace(text, "{", "{ q = 1; return 1;", 1), strings.Replace(text, "{", "{ q = 1; $", 1)} {
			if _, problem := flow.Front(other); problem != firstReason(other) || problem.At > len(other) {
				t.Errorf("%.100s: %v, want %v", other, problem, firstReason(other))
			}
		}
	}
}
