package hooks

import (
	"math/rand"
	"slices"
	"testing"

	"retrace/api"
	"retrace/flow"
	"retrace/parse"
	"retrace/pretty"
	"retrace/tree"
	"retrace/walk"
)

// holds asks all of the chapter's promises of a checked program without hooks, and answers its tree with hooks and the table.
func holds(t *testing.T, p api.Program, text string) (api.Tree, []api.Hook) {
	t.Helper()
	x, rows, errno := Instrument(p)
	nodes, table, code := wanted(p)
	if errno != code || !slices.Equal(x.Nodes, nodes) || !slices.Equal(rows, table) {
		t.Fatalf("%s: %d, %v, %v, want %d, %v, %v", text, errno, x.Nodes, rows, code, nodes, table)
	}
	if errno != api.OK {
		return x, rows
	}
	comesOut(t, p, x, text)
	stillMeans(t, p, x, rows, text)
	allIsTold(t, p, x, rows, text)
	return x, rows
}

// P12.4.
func comesOut(t *testing.T, p api.Program, x api.Tree, text string) {
	t.Helper()
	erased, errno := Erase(x)
	if errno != api.OK || !slices.Equal(erased.Nodes, p.Tree.Nodes) {
		t.Fatalf("%s: erased %d, %v", text, errno, erased)
	}
	again, errno := Erase(erased)
	if errno != api.OK || !slices.Equal(again.Nodes, erased.Nodes) || Count(erased) != 0 {
		t.Fatalf("%s: erased twice %d, %v", text, errno, again)
	}
}

// own tells the nodes of a tree with hooks that are no KHooks, by their numbers without hooks, and of each of its nodes the number that it, or the next one that is no KHook, has there.
func own(x api.Tree) (nodes, numbers []int) {
	for n, node := range x.Nodes {
		numbers = append(numbers, len(nodes))
		if node.Kind != api.KHook {
			nodes = append(nodes, n)
		}
	}
	return nodes, numbers
}

// P12.5.
func stillMeans(t *testing.T, p api.Program, x api.Tree, rows []api.Hook, text string) {
	t.Helper()
	q, problem := flow.Tree(x)
	if problem.Code != api.OK {
		t.Fatalf("%s: with hooks %v", text, problem)
	}
	nodes, numbers := own(x)
	for old, n := range nodes {
		target := q.Scoped.Targets[n]
		if target >= 0 {
			target = numbers[target]
		}
		if q.Types[n] != p.Types[old] || q.Scoped.Slots[n] != p.Scoped.Slots[old] || q.Scoped.Calls[n] != p.Scoped.Calls[old] || q.Scoped.Owners[n] != p.Scoped.Owners[old] || target != p.Scoped.Targets[old] {
			t.Fatalf("%s: node %d means something else", text, old)
		}
	}
	for i, f := range p.Scoped.Funcs {
		if q.Scoped.Funcs[i].Slots != f.Slots || q.Scoped.Funcs[i].Name != f.Name {
			t.Fatalf("%s: function %d is another", text, i)
		}
	}
	// A hook with a name means the variable that its statement sets, or by which it sets something.
	for n, node := range x.Nodes {
		if node.Kind != api.KHook || node.Name == "" {
			continue
		}
		of := rows[node.Int-1].Node
		for p.Scoped.Slots[of] < 0 {
			of++
		}
		if q.Scoped.Slots[n] != p.Scoped.Slots[of] || node.Name != p.Tree.Nodes[of].Name {
			t.Fatalf("%s: the hook %d means another variable", text, node.Int)
		}
	}
}

// P12.6.
func allIsTold(t *testing.T, p api.Program, x api.Tree, rows []api.Hook, text string) {
	t.Helper()
	if Count(x) != len(rows) || len(rows) > 2*len(p.Tree.Nodes) {
		t.Fatalf("%s: %d rows, %d hooks, %d nodes", text, len(rows), Count(x), len(p.Tree.Nodes))
	}
	told := map[api.Hook]int{}
	for _, row := range rows {
		row.Name = ""
		told[row]++
	}
	want := map[api.Hook]int{}
	parents := map[int]api.Kind{}
	for n, node := range p.Tree.Nodes {
		for kid := n + 1; kid < n+node.Size; kid += p.Tree.Nodes[kid].Size {
			parents[kid] = node.Kind
		}
		due := func(kinds ...api.EventKind) {
			for _, kind := range kinds {
				want[api.Hook{Kind: kind, Node: n}]++
			}
		}
		if parents[n] == api.KBlock && node.Kind != api.KBlock {
			due(api.EvStmt)
		}
		switch {
		case node.Kind == api.KFunc && node.Type == "":
			due(api.EvCall, api.EvLeave)
		case node.Kind == api.KFunc:
			due(api.EvCall)
		case node.Kind == api.KParam, node.Kind == api.KVar, node.Kind == api.KFor:
			due(api.EvSet)
		case node.Kind == api.KBlock && parents[n] != api.KFunc:
			due(api.EvEnter, api.EvExit)
		case node.Kind == api.KReturn:
			due(api.EvReturn)
		case node.Kind == api.KAssign, node.Kind == api.KRead:
			if p.Tree.Nodes[n+1].Kind == api.KIndex {
				due(api.EvTouch)
			} else {
				due(api.EvSet)
			}
		}
	}
	if len(told) != len(want) {
		t.Fatalf("%s: %v is told, want %v", text, told, want)
	}
	for row, count := range want {
		if told[row] != count {
			t.Fatalf("%s: %v is told %d times, want %d", text, row, told[row], count)
		}
	}
}

// readsBack: the canonical text of a tree with hooks reads as the same tree.
func readsBack(t *testing.T, x api.Tree) {
	t.Helper()
	text, errno := pretty.Program(x)
	read, problem := parse.Program(text)
	if errno != api.OK || problem.Code != api.OK || !tree.Same(read, x) {
		t.Fatalf("%s: %d, %v", text, errno, problem)
	}
}

// P12.1 to P12.6: grown programs.
func TestGrown(t *testing.T) {
	kinds := map[api.EventKind]int{}
	for seed := range seeds(2500) {
		p, text := grow(t, seed, false)
		x, rows := holds(t, p, text)
		readsBack(t, x)
		for _, row := range rows {
			kinds[row.Kind]++
		}
	}
	// The test is worth something only if everything is told in it.
	for kind := api.EvStmt; kind <= api.EvTouch; kind++ {
		if kinds[kind] < 100 {
			t.Errorf("kind %d came too seldom: %v", kind, kinds)
		}
	}
}

// What a program means is told by its rows, and hooks change nothing of it.
func TestMeaning(t *testing.T) {
	for seed := range seeds(1000) {
		p, text := grow(t, 100000+seed, false)
		x, rows := holds(t, p, text)
		q, _ := flow.Tree(x)
		_, numbers := own(x)
		input, limits := []int64{1, 2, 0, 3}, api.Limits{Depth: 5, Cells: 100}
		one, _ := walk.Run(p, input, limits, 200)
		other, _ := walk.Run(q, input, limits, 200)
		if len(one.Events) != len(other.Events) || one.Outcome != other.Outcome || one.Output != other.Output || one.Input != other.Input {
			t.Fatalf("%s: with hooks it is another run", text)
		}
		for at, e := range one.Events {
			hooked := other.Events[at]
			hooked.Node = numbers[hooked.Node]
			if hooked != e {
				t.Fatalf("%s: event %d is %v, with hooks %v", text, at+1, e, hooked)
			}
			if !slices.Contains(rows, api.Hook{Kind: e.Kind, Node: e.Node, Name: e.Name}) {
				t.Fatalf("%s: no hook tells %v", text, e)
			}
		}
	}
}

// sprinkle puts hooks anywhere into a knot's blocks and numbers into its returns, and tells how many.
func sprinkle(r *rand.Rand, k *knot) int {
	count := 0
	if k.Kind == api.KReturn && r.Intn(2) == 0 {
		k.Int = 1 + r.Int63n(40000)
		count++
	}
	var kids []*knot
	for i := 0; i <= len(k.kids); i++ {
		for k.Kind == api.KBlock && r.Intn(3) == 0 {
			hook := api.Node{Kind: api.KHook, Int: 1 + r.Int63n(40000), At: r.Intn(3), Name: []string{"", "x", "main"}[r.Intn(3)]}
			kids = append(kids, &knot{Node: hook})
			count++
		}
		if i < len(k.kids) {
			count += sprinkle(r, k.kids[i])
			kids = append(kids, k.kids[i])
		}
	}
	k.kids = kids
	return count
}

// P12.2, P12.3, P12.4: hooks that stand anywhere, in programs that may mean nothing with them.
func TestSprinkled(t *testing.T) {
	r := rand.New(rand.NewSource(1))
	for seed := range seeds(2000) {
		p, text := grow(t, 200000+seed, false)
		k := knots(p.Tree.Nodes, 0)
		count := sprinkle(r, k)
		nodes, _ := k.list(nil, nil)
		x := api.Tree{Nodes: nodes}
		if got := Count(x); got != count {
			t.Fatalf("%s: %d hooks, want %d", text, got, count)
		}
		comesOut(t, p, x, text)
	}
}

// P12.1, P12.2: grown programs with hooks of their own.
func TestGrownHooked(t *testing.T) {
	hooked := 0
	for seed := range seeds(1000) {
		p, text := grow(t, 300000+seed, true)
		if Count(p.Tree) == 0 {
			holds(t, p, text)
			continue
		}
		hooked++
		refuses(t, text, p, api.ErrArg)
		erased, errno := Erase(p.Tree)
		q, problem := flow.Tree(erased)
		if errno != api.OK || problem.Code != api.OK {
			t.Fatalf("%s: erased %d, %v", text, errno, problem)
		}
		holds(t, q, text)
	}
	if hooked < int(seeds(300)) {
		t.Errorf("only %d programs had hooks", hooked)
	}
}

// P12.7: any field of any node changed.
func TestChanged(t *testing.T) {
	codes := map[api.Errno]int{}
	for seed := range seeds(5000) {
		p, text := grow(t, 400000+seed%500, seed%3 == 0)
		r := rand.New(rand.NewSource(seed))
		node := &p.Tree.Nodes[r.Intn(len(p.Tree.Nodes))]
		switch r.Intn(8) {
		case 0, 1:
			node.Kind = api.Kind(r.Intn(32) - 1)
		case 2:
			node.At = []int{-1, 0, 7, 1<<63 - 1}[r.Intn(4)]
		case 3:
			node.Name = []string{"", "v1", "main", "if"}[r.Intn(4)]
		case 4:
			node.Type = []string{"", "int", "[bool]", "none"}[r.Intn(4)]
		case 5:
			node.Int = int64(r.Intn(4) - 1)
		case 6:
			node.Size += r.Intn(5) - 2
		case 7:
			node.Size = []int{-1 << 63, -1, 0, 1<<63 - 1}[r.Intn(4)]
		}
		_, eraseCode := Erase(p.Tree)
		if eraseCode != tree.Valid(p.Tree) {
			t.Fatalf("%s: changed, Erase answers %d", text, eraseCode)
		}
		q, problem := flow.Tree(p.Tree)
		checked := problem.Code == api.OK && slices.Equal(q.Types, p.Types) && slices.Equal(q.Scoped.Slots, p.Scoped.Slots) && slices.EqualFunc(q.Scoped.Funcs, p.Scoped.Funcs, func(a, b api.Func) bool {
			return a.Name == b.Name && a.Result == b.Result && slices.Equal(a.Vars, b.Vars)
		}) && slices.Equal(q.Scoped.Calls, p.Scoped.Calls)
		_, _, errno := Instrument(p)
		codes[errno]++
		if (errno == api.OK) != (checked && Count(p.Tree) == 0) || errno != api.OK && errno != api.ErrArg {
			t.Fatalf("%s: changed, Instrument answers %d", text, errno)
		}
	}
	if codes[api.OK] < 20 || codes[api.ErrArg] < 100 {
		t.Errorf("too few of a kind: %v", codes)
	}
}

// P12.7: any lists of nodes.
func TestAnything(t *testing.T) {
	r := rand.New(rand.NewSource(2))
	trees := 0
	for range seeds(200000) {
		nodes := make([]api.Node, r.Intn(9))
		for i := range nodes {
			nodes[i] = api.Node{Kind: api.Kind(r.Intn(32) - 1), Size: len(nodes) - i}
			if i < 3 && r.Intn(5) > 0 {
				nodes[i].Kind = []api.Kind{api.KProgram, api.KFunc, api.KBlock}[i]
			}
			if i >= 3 {
				nodes[i].Kind = []api.Kind{api.KHook, api.KReturn, api.KBlock, api.KHook, api.Kind(r.Intn(32))}[r.Intn(5)]
				nodes[i].Size = 1
			}
			switch nodes[i].Kind {
			case api.KFunc:
				nodes[i].Name = "main"
			case api.KHook, api.KReturn:
				nodes[i].Int = int64(r.Intn(9))
			}
			if r.Intn(20) == 0 {
				nodes[i].Size = []int{-1 << 63, -1, 0, 2, 3, 1<<63 - 1}[r.Intn(6)]
			}
		}
		x := api.Tree{Nodes: nodes}
		erased, errno := Erase(x)
		if errno != tree.Valid(x) || Count(erased) != 0 {
			t.Fatalf("%v: %d, %v", nodes, errno, erased)
		}
		refuses(t, "nodes alone", api.Program{Tree: x}, api.ErrArg)
		if errno != api.OK {
			if len(erased.Nodes) > 0 || Count(x) != 0 {
				t.Fatalf("%v: %v", nodes, erased)
			}
			continue
		}
		trees++
		want, _ := stripped(knots(nodes, 0)).list(nil, nil)
		if !slices.Equal(erased.Nodes, want) {
			t.Fatalf("%v: %v, want %v", nodes, erased.Nodes, want)
		}
	}
	if trees < int(seeds(20000)) {
		t.Errorf("only %d were trees", trees)
	}
}

// stripped is a knot without hooks, the chapter's words on Erase written out a second time.
func stripped(k *knot) *knot {
	out := &knot{Node: k.Node}
	if k.Kind == api.KReturn {
		out.Int = 0
	}
	for _, kid := range k.kids {
		if kid.Kind != api.KHook {
			out.kids = append(out.kids, stripped(kid))
		}
	}
	return out
}
