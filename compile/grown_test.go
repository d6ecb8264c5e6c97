package compile

import (
	"math/rand"
	"reflect"
	"slices"
	"strconv"
	"strings"
	"testing"

	"retrace/api"
	"retrace/flow"
	"retrace/hooks"
	"retrace/verify"
	"retrace/walk"
)

// holds asks P15.1 to P15.5 of a checked program, and answers its code.
func holds(t *testing.T, p api.Program, text string) api.Code {
	t.Helper()
	made, errno := Program(p)
	want, code := wanted(p)
	if errno != code || !same(made, want) {
		t.Fatalf("%s: %d, %v, want %d, %v", text, errno, made, code, want)
	}
	if errno == api.OK {
		safe(t, text, made)
		isAsHigh(t, p, made, text)
	}
	return made
}

// isAsHigh: P15.4: verify tells the same height, where each statement has a way that leads to it.
func isAsHigh(t *testing.T, p api.Program, made api.Code, text string) {
	t.Helper()
	s := readSecond(p)
	for number, f := range p.Scoped.Funcs {
		want := s.high(f.Node)
		got, errno := verify.High(made, number)
		if errno != api.OK || got > want || got < want && len(flow.Dead(p.Tree)) == 0 {
			t.Fatalf("%s: %s is %d high, want %d", text, f.Name, got, want)
		}
	}
}

// stripped is a code without its emits, P15.6 as the chapter words it.
func stripped(made api.Code) api.Code {
	var kept []api.Instr
	places := make([]int, len(made.Instrs)+1)
	for at, in := range made.Instrs {
		places[at] = len(kept)
		if in.Op != api.InEmit && in.Op != api.InShow && in.Op != api.InTell {
			kept = append(kept, in)
		}
	}
	for at, in := range kept {
		if in.Op == api.InJump || in.Op == api.InFalse {
			kept[at].A = int64(places[in.A])
		}
	}
	entrys := slices.Clone(made.Entrys)
	for i, e := range entrys {
		entrys[i].Start = places[e.Start]
	}
	return api.Code{Instrs: kept, Entrys: entrys, Texts: made.Texts, Main: made.Main}
}

// P15.1 to P15.5: grown programs, with hooks and without.
func TestGrown(t *testing.T) {
	ops, kinds, ended := map[api.Code8]int{}, map[api.Kind]int{}, 0
	for seed := range seeds(2000) {
		p, text := grow(t, seed, seed%2 == 0)
		made := holds(t, p, text)
		for _, in := range made.Instrs {
			ops[in.Op]++
		}
		for _, node := range p.Tree.Nodes {
			kinds[node.Kind]++
		}
		if len(flow.Dead(p.Tree)) == 0 {
			ended++
		}
	}
	// The test is worth something only if everything comes in it.
	for op := api.InNop; op <= api.InTell; op++ {
		if ops[op] < 50 {
			t.Errorf("instruction %d came too seldom: %v", op, ops)
		}
	}
	for kind := api.KProgram; kind <= api.KStr; kind++ {
		if kinds[kind] < 50 && (kind <= api.KHook || kind >= api.KInt) {
			t.Errorf("kind %d came too seldom: %v", kind, kinds)
		}
	}
	if ended < int(seeds(300)) {
		t.Errorf("only %d programs without dead statements", ended)
	}
}

// P15.6: hooks that Instrument puts in, and hooks that stand anywhere, are but emits.
func TestHooksAreEmits(t *testing.T) {
	own := 0
	for seed := range seeds(1200) {
		p, text := grow(t, 100000+seed, seed%2 == 0)
		if hooks.Count(p.Tree) > 0 {
			own++
			made := holds(t, p, text)
			bare, _ := hooks.Erase(p.Tree)
			p = checked(t, bare.Nodes)
			if got := stripped(made); !same(got, holds(t, p, text)) {
				t.Fatalf("P15.6: %s: without its own hooks: %s", text, told(got.Instrs))
			}
		}
		x, rows, errno := hooks.Instrument(p)
		if errno != api.OK {
			t.Fatal(text, errno)
		}
		made := holds(t, checked(t, x.Nodes), text)
		plain := holds(t, p, text)
		if got := stripped(made); !same(got, plain) {
			t.Fatalf("P15.6: %s: with hooks %s, without %s", text, told(made.Instrs), told(plain.Instrs))
		}
		if len(made.Instrs) != len(plain.Instrs)+len(rows) {
			t.Fatalf("P15.6: %s: %d emits, want %d", text, len(made.Instrs)-len(plain.Instrs), len(rows))
		}
	}
	if own < int(seeds(300)) {
		t.Errorf("only %d programs had hooks of their own", own)
	}
}

// renamed is a program with other names of variables and labels, places and text, which means the same.
func renamed(t *testing.T, r *rand.Rand, p api.Program) api.Program {
	t.Helper()
	nodes := slices.Clone(p.Tree.Nodes)
	for n := range nodes {
		node := &nodes[n]
		node.At = r.Intn(1000)
		if slot := p.Scoped.Slots[n]; slot >= 0 {
			node.Name = "q" + strconv.Itoa(slot)
		}
		switch node.Kind {
		case api.KWhile, api.KFor:
			node.Label = "l" + strconv.Itoa(n)
		case api.KBreak, api.KContinue:
			node.Label = "l" + strconv.Itoa(p.Scoped.Targets[n])
		}
	}
	q := checked(t, nodes)
	q.Text = strings.Repeat("?", r.Intn(4))
	return q
}

// P15.7: names of variables and labels, places and the text make no difference.
func TestNamesAreNames(t *testing.T) {
	r := rand.New(rand.NewSource(1))
	changed := 0
	for seed := range seeds(1000) {
		p, text := grow(t, 200000+seed, seed%2 == 0)
		made := holds(t, p, text)
		q := renamed(t, r, p)
		if again := holds(t, q, text); !same(again, made) {
			t.Fatalf("P15.7: %s: with other names %s, want %s", text, told(again.Instrs), told(made.Instrs))
		}
		if !slices.Equal(p.Tree.Nodes, q.Tree.Nodes) {
			changed++
		}
	}
	if changed < int(seeds(900)) {
		t.Errorf("only %d programs were changed", changed)
	}
}

// eventOf is what a yield tells.
func eventOf(rows []api.Hook, y api.Yield) api.Event {
	row := rows[y.Hook-1]
	return api.Event{Kind: row.Kind, Node: row.Node, Name: row.Name, Value: y.Value}
}

func endsAs(m *machine, run api.Run) bool {
	return m.outcome == run.Outcome && m.output.String() == run.Output && m.read == run.Input && reflect.DeepEqual(m.heap.Arrays(), run.Arrays)
}

// meant holds what a program's code does, with hooks and without, against what the program means (P0.1 to P0.3, as far as these are compile's).
func meant(t *testing.T, p api.Program, text string, input []int64, limits api.Limits, events int) api.Outcome {
	t.Helper()
	plain := holds(t, p, text)
	x, rows, _ := hooks.Instrument(p)
	made := holds(t, checked(t, x.Nodes), text)
	run, errno := walk.Run(p, input, limits, events)
	if errno != api.OK {
		t.Fatal(text, errno)
	}
	over := run.Outcome.Phase != api.Running
	m := start(made, input, limits)
	bound := (len(run.Events) + 1) * (2*len(made.Instrs) + 2)
	m.run(len(run.Events), bound)
	if over {
		m.run(len(run.Events)+1, bound)
	}
	if len(m.yields) != len(run.Events) || over && !endsAs(m, run) {
		t.Fatalf("%s: with hooks %v, %q behind %d yields, want %v, %q, %d", text, m.outcome, m.output.String(), len(m.yields), run.Outcome, run.Output, len(run.Events))
	}
	for i, y := range m.yields {
		if eventOf(rows, y) != run.Events[i] {
			t.Fatalf("%s: yield %d is %v, want %v", text, i+1, eventOf(rows, y), run.Events[i])
		}
	}
	b := start(plain, input, limits)
	b.run(1, m.steps)
	if over && !endsAs(b, run) || m.steps > 4*b.steps+8 {
		t.Fatalf("%s: without hooks %v, %q behind %d steps, with them %v, %q behind %d", text, b.outcome, b.output.String(), b.steps, m.outcome, m.output.String(), m.steps)
	}
	return run.Outcome
}

// The code does what its program means.
func TestMeaning(t *testing.T) {
	outcomes := map[api.Outcome]int{}
	for seed := range seeds(2000) {
		p, text := grow(t, 300000+seed, false)
		r := rand.New(rand.NewSource(seed))
		input := []int64{1, 2, 0, 3, -1, 5, 4, 1}[r.Intn(9):]
		limits := api.Limits{Depth: 1 + r.Intn(6), Cells: r.Intn(100)}
		outcomes[meant(t, p, text, input, limits, 300)]++
	}
	for trap := api.TrapDivide; trap <= api.TrapLong; trap++ {
		if outcomes[api.Outcome{Phase: api.Trapped, Trap: trap}] < int(seeds(20)) {
			t.Errorf("trap %d came too seldom: %v", trap, outcomes)
		}
	}
	if outcomes[api.Outcome{Phase: api.Ended}] < int(seeds(100)) || outcomes[api.Outcome{}] < int(seeds(20)) {
		t.Errorf("too few of a kind: %v", outcomes)
	}
}

// The document's ten examples, as far as they are compile's.
func TestWholeMeaning(t *testing.T) {
	p := program(t, `fn add(a: int, b: int): int { return a + b; } fn main() { var x: int = 2; read x; var a: [int] = new int[x]; a[1] = add(x, 40); print x, a[1], "ok"; }`)
	for _, row := range []struct {
		input  []int64
		limits api.Limits
		want   api.Outcome
	}{
		{[]int64{3}, api.Limits{Depth: 10, Cells: 100}, api.Outcome{Phase: api.Ended}},
		{[]int64{1}, api.Limits{Depth: 10, Cells: 100}, api.Outcome{Phase: api.Trapped, Trap: api.TrapIndex}},
		{nil, api.Limits{Depth: 10, Cells: 100}, api.Outcome{Phase: api.Trapped, Trap: api.TrapInput}},
		{[]int64{3}, api.Limits{Depth: 10, Cells: 3}, api.Outcome{Phase: api.Trapped, Trap: api.TrapHeap}},
		{[]int64{3}, api.Limits{Depth: 1, Cells: 100}, api.Outcome{Phase: api.Trapped, Trap: api.TrapDepth}},
	} {
		if got := meant(t, p, "the document's example", row.input, row.limits, 100); got != row.want {
			t.Errorf("%v: %v, want %v", row.input, got, row.want)
		}
	}
}

// The ends of counting: the least and the greatest int, empty loops, a variable that is assigned to in its loop.
func TestCounting(t *testing.T) {
	for _, text := range []string{
		"for i = 9223372036854775806 to 9223372036854775807 { print i; i = 0; }",
		"for i = 9223372036854775807 to 9223372036854775807 { print i; continue; }",
		"for i = -9223372036854775807 - 1 to -9223372036854775807 { print i; }",
		"for i = 1 to 0 { print i; }",
		"for i = 9223372036854775807 to -9223372036854775807 - 1 { print i; }",
		"o: for i = 1 to 3 { for i = i to 3 { if i == 2 { continue o; } print i; } }",
		"for i = 1 to 3 { for j = 1 to i { print i, j; i = 7; if j == 2 { break; } } }",
		"for i = 1 to 3 { if i == 2 { return; } print i; }",
	} {
		if got := meant(t, program(t, "fn main() { "+text+" }"), text, nil, api.Limits{Depth: 1}, 1000); got.Phase != api.Ended {
			t.Errorf("%s: %v", text, got)
		}
	}
}
