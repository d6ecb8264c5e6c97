package query

import (
	"slices"
	"strconv"
	"strings"
	"testing"

	"retrace/api"
	"retrace/flow"
	"retrace/parse"
	"retrace/walk"
)

// many is how great something is made.
func many(all int) int {
	if testing.Short() {
		return all / 50
	}
	return all
}

// asksSetter asks for some setters and the errors at a record's edges.
func asksSetter(t *testing.T, p api.Program, r api.Record, name string, want map[int]int) {
	t.Helper()
	for at, k := range want {
		if n, errno := Setter(p, r, name, at); n != k || errno != api.OK {
			t.Errorf("P26.2: Setter(%s, %d) = %d, %d, want %d", name, at, n, errno, k)
		}
	}
	for _, at := range []int{-1, len(r.Events) + 1} {
		if n, errno := Setter(p, r, name, at); n != 0 || errno != api.ErrAsk {
			t.Errorf("P26.2: Setter(%s, %d) = %d, %d", name, at, n, errno)
		}
	}
}

// P26.9: as many events as a record may be kept with, and more.
func TestManyEvents(t *testing.T) {
	p := hooked(t, "fn main() {\nvar t: text = \"\";\nwhile true {\nvar x: int = 1;\nt = \"a\"; }\n}\nfn none() { }")
	// 3 var t, 5 while, 7 its block, 8 var x, 10 t = "a".
	turns := many(api.MaxEvents/6 + 10)
	list := []api.Event{call(1, "main"), stmt(3), set(3, "t", text("")), stmt(5)}
	for n := range turns {
		list = append(list, enter(7), stmt(8), set(8, "x", number(int64(n))), stmt(10), set(10, "t", text("a")), exit(7))
	}
	r := of(list...)
	if !testing.Short() && len(list) <= api.MaxEvents {
		t.Fatal(len(list))
	}
	coverage, errno := Coverage(p, r)
	if !slices.Equal(coverage, []int{0, 1, 1, turns, turns, 0, 0}) || errno != api.OK {
		t.Errorf("P26.3: %v, %d", coverage, errno)
	}
	profile, errno := Profile(p, r)
	if want := []api.Cost{{Func: 0, Calls: 1, Own: 2 + 2*turns, All: 2 + 2*turns}, {Func: 1}}; !slices.Equal(profile, want) || errno != api.OK {
		t.Errorf("P26.4: %v, %d, want %v", profile, errno, want)
	}
	history, errno := History(p, r, "main", "x")
	if len(history) != turns || history[turns-1] != (api.Change{At: len(list) - 3, Node: 8, Value: number(int64(turns - 1))}) || errno != api.OK {
		t.Errorf("P26.1: %d, %d", len(history), errno)
	}
	last := len(list)
	asksSetter(t, p, r, "x", map[int]int{last: 0, last - 1: last - 3, last - 3: last - 3, last - 4: 0, 6: 0, 7: 7, 9: 7, 10: 0})
	asksSetter(t, p, r, "t", map[int]int{last: last - 1, last - 2: last - 7, 3: 3, 8: 3, 9: 9})
	frames, errno := Frames(p, r, last-1)
	if len(frames) != 1 || len(frames[0].Vars) != 2 || frames[0].Vars[1].Value != number(int64(turns-1)) || errno != api.OK {
		t.Errorf("P26.5: %v, %d", frames, errno)
	}
	r.Events = append(r.Events, exit(7))
	refuses(t, p, r, true)
}

// P26.9: many more frames in one another than a run may have.
func TestManyFrames(t *testing.T) {
	p := hooked(t, "fn f(n: int) { f(n + 1); } fn main() { f(0); }")
	depth := many(250000)
	list := []api.Event{call(9, "main"), stmt(11)}
	for n := range depth {
		list = append(list, call(1, "f"), set(2, "n", number(int64(n))), stmt(4))
	}
	for range depth {
		list = append(list, leave(1))
	}
	list = append(list, leave(9))
	r := of(list...)
	profile, errno := Profile(p, r)
	if want := []api.Cost{{Func: 0, Calls: depth, Own: depth, All: depth}, {Func: 1, Calls: 1, Own: 1, All: depth + 1}}; !slices.Equal(profile, want) || errno != api.OK {
		t.Errorf("P26.4: %v, %d, want %v", profile, errno, want)
	}
	deepest := 2 + 3*depth
	asksSetter(t, p, r, "n", map[int]int{deepest: deepest - 1, deepest - 1: deepest - 1, deepest - 2: 0, deepest - 3: deepest - 4, deepest + 1: deepest - 4, deepest + depth - 1: 4, deepest + depth: 0, deepest + depth + 1: 0})
	frames, errno := Frames(p, r, deepest)
	if len(frames) != depth+1 || frames[0].Vars[0].Value != number(int64(depth-1)) || errno != api.OK {
		t.Errorf("P26.5: %d, %d", len(frames), errno)
	}
}

// P26.4: as many functions as may be, each calling the next one.
func TestManyFunctions(t *testing.T) {
	var source strings.Builder
	for n := range api.MaxFuncs - 1 {
		source.WriteString("fn f" + strconv.Itoa(n) + "() { print 1; ")
		if n > 0 {
			source.WriteString("f" + strconv.Itoa(n-1) + "(); ")
		}
		source.WriteString("print 2; }\n")
	}
	source.WriteString("fn main() { f" + strconv.Itoa(api.MaxFuncs-2) + "(); f3(); }")
	p := hooked(t, source.String())
	run, errno := walk.Run(p, nil, api.Limits{Depth: 100}, 10000)
	if errno != api.OK || run.Outcome.Phase != api.Ended {
		t.Fatal(errno, run.Outcome)
	}
	agreesAt(t, p, of(run.Events...), 100)
	nothingIsLost(t, p, of(run.Events...))
}

// P26.3, P26.9: as many statements as a tree may have, in a text as long as may be read, each on a line of its own.
func TestManyLines(t *testing.T) {
	statements, gap := (api.MaxTree-3)/2, 190
	var source strings.Builder
	source.WriteString("fn main() {\n")
	for range statements {
		source.WriteString("print 1;" + strings.Repeat("\n", gap))
	}
	source.WriteString("}")
	tree, problem := parse.Program(source.String())
	p, other := flow.Tree(tree)
	if problem.Code != api.OK || other.Code != api.OK {
		t.Fatal(problem, other)
	}
	p.Text = source.String()
	run, _ := walk.Run(p, nil, api.Limits{Depth: 1}, 100000)
	lines, errno := Coverage(p, of(run.Events...))
	if errno != api.OK || len(lines) != 2+statements*gap || len(run.Events) != statements+2 {
		t.Fatalf("P26.3: %d, %d lines, %d events", errno, len(lines), len(run.Events))
	}
	for n, count := range lines {
		if is := n >= 1 && n < len(lines)-1 && (n-1)%gap == 0; is && count != 1 || !is && count != 0 {
			t.Fatalf("P26.3: line %d: %d", n+1, count)
		}
	}
}

// placed is a program with another text, and with nodes that begin elsewhere.
func placed(p api.Program, text string, at ...int) api.Program {
	p.Text = text
	p.Tree.Nodes = slices.Clone(p.Tree.Nodes)
	for n := range p.Tree.Nodes {
		p.Tree.Nodes[n].At = at[n%len(at)]
	}
	return p
}

// P26.3: texts that are not the source: a statement counts where its At is in the text that is there, at its end too, and behind it nowhere.
func TestOtherTexts(t *testing.T) {
	p, r := kept(t, "fn main() { print 1; print 2; for i = 1 to 3 { print 3; } }", 100)
	// 3 and 5 the prints, 7 the for, 11 the print in it.
	for _, row := range []struct {
		text string
		at   []int
		want []int
	}{
		{"", []int{0}, []int{6}},
		{"", []int{1}, []int{0}},
		{"\n", []int{0}, []int{6, 0}},
		{"\n", []int{1}, []int{0, 6}},
		{"\n", []int{2}, []int{0, 0}},
		{"\n", []int{1 << 62}, []int{0, 0}},
		{"a\nb\n\nc", []int{0, 0, 0, 1, 0, 2, 0, 3, 0, 0, 0, 4}, []int{1, 2, 3, 0}},
		{"a\nb\n\nc", []int{0, 0, 0, 6, 0, 5, 0, 3, 0, 0, 0, 1}, []int{3, 1, 0, 2}},
		{"a\nb\n\nc", []int{0, 0, 0, 7, 0, 6, 0, 7, 0, 0, 0, 3}, []int{0, 3, 0, 1}},
		{"\r\r\x00\xff\n\t", []int{0, 0, 0, 3, 0, 4, 0, 5, 0, 0, 0, 6}, []int{2, 4}},
	} {
		other := placed(p, row.text, row.at...)
		if l, errno := Coverage(other, r); !slices.Equal(l, row.want) || errno != api.OK {
			t.Errorf("P26.3: %q, %v: Coverage = %v, %d, want %v", row.text, row.at, l, errno, row.want)
		}
		agreesAt(t, other, r, 7)
	}
	for seed := range seeds(100) {
		g := newGrower(6e6 + seed)
		p, r := g.program().walked(t, 40)
		at := make([]int, len(p.Tree.Nodes))
		for n := range at {
			at[n] = g.Intn(30)
		}
		text := strings.Repeat(g.pick("a\n", "\n", "ab", "\n\n\tb"), g.Intn(12))
		agreesAt(t, placed(p, text, at...), r, len(r.Events))
	}
}
