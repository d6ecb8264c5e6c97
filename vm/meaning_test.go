package vm

import (
	"strconv"
	"strings"
	"testing"

	"retrace/api"
	"retrace/compile"
	"retrace/flow"
	"retrace/hooks"
	"retrace/verify"
	"retrace/walk"
)

// writer makes sources that are right in all that the front asks for: the functions and their first variables are the same ones always, and what stands in them is grown by the rules below.
type writer struct {
	grower
	returns string // the rule by which the function that is written comes back
	loops   int    // how many are around
}

// rules: what a capital letter stands for: a statement, a block; a number, a truth, a text, a list, an index. What comes more often stands there more often.
var rules = map[byte][]string{
	'S': {"a = N; ", "b = N; ", "p = B; ", "s = T; ", "x = L; ", "xI = N; ", "yI = T; ", "zI = L; ", "z[0]I = N; ", "read a; ", "read xI; ", "read zII; ", "f(N, p); ", "g(T); ", "h(x); ", "k(); ", "print N; ", "print N, B, T; ", "if B { R} ", "if B D", "if B Delse D", "if B Delse if B D", "W", "W", "D", "J", "J"},
	'D': {"{ S} ", "{ SS} ", "{ SSS} ", "{ } "},
	'N': {"a", "b", "1", "2", "(N + N)", "(N - N)", "(N * N)", "(N / 2)", "(N % N)", "-a", "xI", "sI", "zII", "len(T)", "len(L)", "f(N, B)"},
	'B': {"p", "!p", "(N < N)", "(N <= N)", "(N == N)", "(N >= N)", "(T > T)", "(T != T)", "(B && B)", "(B || B)", "(x == L)"},
	'T': {"s", "\"ab\"", "(T + T)", "(T + T)", "str(N)", "str(B)", "yI", "g(T)"},
	'L': {"x", "new int[3]", "zI", "h(L)", "new int[N]"},
	'I': {"[0]", "[0]", "[0]", "[1]", "[1]", "[2]", "[b]"},
}

// leaves: the same, where nothing may stand within it.
var leaves = map[byte][]string{
	'S': {"a = a - 1; ", "p = !p; ", "print a, s; ", "k(); ", "s = s + \"" + strings.Repeat("long", 20) + "\"; "},
	'D': {"{ } "},
	'N': {"a", "b", "0", "1", "2", "9223372036854775807"},
	'B': {"p", "true", "false"},
	'T': {"s", "\"\"", "\"\\x00\\xff\"", "\"" + strings.Repeat("long", 40) + "\""},
	'L': {"x"},
	'I': {"[0]", "[1]"},
}

func (w *writer) source() string {
	text := ""
	for _, f := range [][2]string{{"f(n: int, q: bool): int", "return N; "}, {"g(t: text): text", "return T; "}, {"main()", "return; "}, {"h(v: [int]): [int]", "return L; "}, {"k()", "return; "}} {
		w.returns = f[1]
		text += "fn " + f[0] + w.fill(" { var a: int = 3; var b: int = 1; var p: bool = true; var s: text = \"sss\"; var x: [int] = new int[3]; var y: [text] = new text[3]; var z: [[int]] = new [int][2]; z[0] = x; z[1] = new int[3]; "+strings.Repeat("S", 3+w.Intn(6))+"R}\n", 5)
	}
	return text
}

// fill puts something in the place of each capital letter.
func (w *writer) fill(rule string, left int) string {
	var out strings.Builder
	for _, one := range []byte(rule) {
		list := rules[one]
		if left <= 0 {
			list = leaves[one]
		}
		switch {
		case one == 'R':
			out.WriteString(w.fill(w.returns, min(left, 2)))
		case one == 'W':
			out.WriteString(w.loop(left))
		case one == 'J' && w.loops > 0:
			jump := []string{"break", "continue"}[w.Intn(2)] + " l" + strconv.Itoa(w.Intn(w.loops)) + "; "
			out.WriteString(w.fill("if B { ", 1) + jump + "} ")
		case one == 'J':
			out.WriteString("k(); ")
		case list != nil:
			out.WriteString(w.fill(list[w.Intn(len(list))], left-1))
		default:
			out.WriteByte(one)
		}
	}
	return out.String()
}

func (w *writer) loop(left int) string {
	head := w.fill([]string{"while B ", "for i = N to N "}[w.Intn(2)], min(left, 2))
	text := "l" + strconv.Itoa(w.loops) + ": " + head
	w.loops++
	text += w.fill("D", left)
	w.loops--
	return text
}

// built is a checked program, its code without hooks and with them, and the hooks' rows.
type built struct {
	program     api.Program
	bare, hooks api.Code
	rows        []api.Hook
}

func build(t *testing.T, text string) built {
	t.Helper()
	p, problem := flow.Front(text)
	if problem.Code != api.OK {
		t.Fatalf("%s: %v at %q", text, problem, text[problem.At:])
	}
	hooked, rows, errno := hooks.Instrument(p)
	if errno != api.OK {
		t.Fatal(text, errno)
	}
	q, problem := flow.Tree(hooked)
	if problem.Code != api.OK {
		t.Fatal(text, problem)
	}
	bare, errno := compile.Program(p)
	with, errnoWith := compile.Program(q)
	if errno != api.OK || errnoWith != api.OK {
		t.Fatal(text, errno, errnoWith)
	}
	for _, c := range []api.Code{bare, with} {
		if errno, at := verify.Check(c); errno != api.OK {
			t.Fatal(text, errno, at)
		}
	}
	return built{p, bare, with, rows}
}

// alike tells whether a machine's run is what the walk's is, but for how the steps are counted.
func alike(m *Machine, run api.Run) bool {
	got := m.Result()
	got.Steps, run.Steps, run.Events = 0, 0, nil
	return sameRun(got, run)
}

// meant holds what a program's codes do against what the program means: P0.1 to P0.3.
func meant(t *testing.T, text string, input []int64, l api.Limits, events int) api.Outcome {
	t.Helper()
	b := build(t, text)
	run, _ := walk.Run(b.program, input, l, events)
	over := run.Outcome.Phase != api.Running
	walked, _ := walk.New(b.program, input, l)
	m, _ := New(b.hooks, input, l)
	each := 2*len(b.hooks.Instrs) + 2
	for n, want := range run.Events {
		y, yields := m.Run((n+1)*each - m.Steps())
		if !yields {
			t.Fatalf("%s: no event %d, but %v", text, n+1, m.Result())
		}
		row := b.rows[y.Hook-1]
		if got := (api.Event{Kind: row.Kind, Node: row.Node, Name: row.Name, Value: y.Value}); got != want {
			t.Fatalf("%s: event %d is %v, want %v", text, n+1, got, want)
		}
		walked.Step()
		ahead := walked.Result().Output
		if got := m.Result().Output; got != ahead {
			next, _ := walk.Run(b.program, input, l, n+2)
			if got != next.Output {
				t.Fatalf("%s: at event %d %q, want %q or %q", text, n+1, got, ahead, next.Output)
			}
		}
	}
	if over {
		if _, yields := m.Run((len(run.Events)+1)*each - m.Steps()); yields || !alike(m, run) {
			t.Fatalf("%s: with hooks %v, want %v", text, m.Result(), run)
		}
	}
	bare, _ := New(b.bare, input, l)
	if _, yields := bare.Run(m.Steps()); yields || over && !alike(bare, run) || over && m.Steps() > 4*bare.Steps()+8 {
		t.Fatalf("%s: without hooks %v, with them %v, want %v", text, bare.Result(), m.Result(), run)
	}
	if whole, _ := walk.Run(b.program, input, l, 2*events); !strings.HasPrefix(whole.Output, bare.Result().Output) {
		t.Fatalf("%s: without hooks %q, want %q", text, bare.Result().Output, whole.Output)
	}
	return run.Outcome
}

// P0.1 to P0.3: grown programs, with hooks and without.
func TestMeaning(t *testing.T) {
	outcomes := map[api.Outcome]int{}
	for seed := range seeds(1500) {
		w := &writer{grower: newGrower(seed)}
		text := w.source()
		input := []int64{1, 2, 0, 3, -1, 5, 4, 1, 1, 2}[w.Intn(11):]
		l := api.Limits{Depth: 1 + w.Intn(12), Cells: 15 + w.Intn(300)}
		outcomes[meant(t, text, input, l, 300)]++
	}
	for trap := api.TrapDivide; trap <= api.TrapLong; trap++ {
		if outcomes[trapped(trap)] < int(seeds(10)) {
			t.Errorf("trap %d came too seldom: %v", trap, outcomes)
		}
	}
	if outcomes[ended()] < int(seeds(50)) || outcomes[api.Outcome{}] < int(seeds(10)) {
		t.Errorf("too few of a kind: %v", outcomes)
	}
}

// The document's examples, as far as they are the machine's.
func TestWholeExamples(t *testing.T) {
	const text = `fn add(a: int, b: int): int { return a + b; } fn main() { var x: int = 2; read x; var a: [int] = new int[x]; a[1] = add(x, 40); print x, a[1], "ok"; }`
	wide := api.Limits{Depth: 10, Cells: 100}
	for _, row := range []struct {
		input []int64
		l     api.Limits
		want  api.Outcome
	}{
		{[]int64{3}, wide, ended()},
		{[]int64{1}, wide, trapped(api.TrapIndex)},
		{nil, wide, trapped(api.TrapInput)},
		{[]int64{3}, api.Limits{Depth: 10, Cells: 3}, trapped(api.TrapHeap)},
		{[]int64{3}, api.Limits{Depth: 1, Cells: 100}, trapped(api.TrapDepth)},
	} {
		if got := meant(t, text, row.input, row.l, 100); got != row.want {
			t.Errorf("%v: %v, want %v", row.input, got, row.want)
		}
	}
	m, _ := New(build(t, text).bare, []int64{3}, wide)
	m.Run(1000)
	if run := m.Result(); run.Output != "3 43 ok\n" || run.Input != 1 || !sameRun(api.Run{Arrays: run.Arrays}, api.Run{Arrays: [][]api.Value{nil, {i(0), i(43), i(0)}}}) {
		t.Errorf("%v", run)
	}
}

// P16.9: a program's run, stopped and taken up again at each step.
func TestTakenUpAgain(t *testing.T) {
	for seed := range seeds(150) {
		w := &writer{grower: newGrower(500000 + seed)}
		c := build(t, w.source()).hooks
		input, l := []int64{1, 2, 0, 3}, api.Limits{Depth: 5, Cells: 60}
		p := runs(t, c, input, l)
		for range 150 {
			again, errno := loads(t, c, input, l, p.m.Save())
			if errno != api.OK {
				t.Fatal(errno)
			}
			p = again
			p.step(t)
		}
		whole, _ := New(c, input, l)
		for range 150 {
			whole.Step()
		}
		if whole.Save() != p.m.Save() {
			t.Fatalf("%s: %v, want %v", told(c), p.m.Result(), whole.Result())
		}
	}
}
