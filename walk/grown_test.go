package walk

import (
	"reflect"
	"slices"
	"strings"
	"testing"

	"retrace/api"
	"retrace/flow"
)

// seeds tells how many programs are grown.
func seeds(all int64) int64 {
	if testing.Short() {
		return all / 10
	}
	return all
}

// sameArrays holds lists of elements against each other; one that is empty may be nil or not.
func sameArrays(a, b [][]api.Value) bool {
	return slices.EqualFunc(a, b, func(a, b []api.Value) bool { return slices.Equal(a, b) })
}

// stands tells whether a run stands at a moment, behind so many events.
func stands(r api.Run, m moment, events int) bool {
	return r.Outcome == m.outcome && r.Output == m.output && r.Input == m.input && r.Steps == events && sameArrays(r.Arrays, m.arrays)
}

func sameRun(a, b api.Run) bool {
	return a.Outcome == b.Outcome && a.Output == b.Output && a.Input == b.Input && a.Steps == b.Steps && slices.Equal(a.Events, b.Events) && sameArrays(a.Arrays, b.Arrays)
}

func begins(a, b []api.Event) bool {
	return len(a) <= len(b) && slices.Equal(a, b[:len(a)])
}

// follows steps through a run and holds it against what is meant.
func follows(t *testing.T, g grown, most int) *meaning {
	t.Helper()
	w := meant(g.program, g.input, g.limits, most)
	m, errno := New(g.program, g.input, g.limits)
	if errno != api.OK {
		t.Fatalf("%s: %d", g.text, errno)
	}
	for at, wanted := range w.events {
		if r := m.Result(); !stands(r, w.past[at], at) || len(r.Events) > 0 {
			t.Fatalf("%s, %v, %v: behind %d events %v, want %v", g.text, g.input, g.limits, at, r, w.past[at])
		}
		if got, more := m.Step(); got != wanted || !more {
			t.Fatalf("%s, %v, %v: event %d is %v, %v, want %v", g.text, g.input, g.limits, at+1, got, more, wanted)
		}
	}
	last := len(w.past) - 1
	if w.now.outcome.Phase != api.Running {
		if r := m.Result(); !stands(r, w.past[last-1], len(w.events)) {
			t.Fatalf("%s, %v, %v: at the last event %v, want %v", g.text, g.input, g.limits, r, w.past[last-1])
		}
		for range 3 {
			if got, more := m.Step(); got != (api.Event{}) || more {
				t.Fatalf("%s, %v, %v: behind the last event %v", g.text, g.input, g.limits, got)
			}
			if r := m.Result(); !stands(r, w.past[last], len(w.events)) {
				t.Fatalf("%s, %v, %v: at the end %v, want %v", g.text, g.input, g.limits, r, w.past[last])
			}
		}
	} else if r := m.Result(); !stands(r, w.past[last], len(w.events)) {
		t.Fatalf("%s, %v, %v: behind %d events %v, want %v", g.text, g.input, g.limits, last, r, w.past[last])
	}
	return w
}

// P11.2, P11.3, and all that the chapter's table says: grown programs do what is meant, event by event.
func TestMeant(t *testing.T) {
	outcomes, kinds := map[api.Outcome]int{}, map[api.EventKind]int{}
	for seed := range seeds(12000) {
		w := follows(t, grow(t, seed), 200)
		outcomes[w.now.outcome]++
		for _, e := range w.events {
			kinds[e.Kind]++
		}
	}
	// The test is worth something only if everything happens in it.
	for trap := api.TrapDivide; trap <= api.TrapLong; trap++ {
		if outcomes[api.Outcome{Phase: api.Trapped, Trap: trap}] < 10 {
			t.Errorf("trap %d came too seldom: %v", trap, outcomes)
		}
	}
	if outcomes[api.Outcome{Phase: api.Ended}] < 100 || outcomes[api.Outcome{}] < 100 {
		t.Errorf("too few runs ended, or went on: %v", outcomes)
	}
	for kind := api.EvStmt; kind <= api.EvTouch; kind++ {
		if kinds[kind] < 100 {
			t.Errorf("event %d came too seldom: %v", kind, kinds)
		}
	}
}

// P11.4, P11.6: Run stops at every event, with the first ones of the events.
func TestStops(t *testing.T) {
	for seed := range seeds(400) {
		g := grow(t, seed)
		w := meant(g.program, g.input, g.limits, 60)
		ran := api.Run{}
		for events := -2; events <= 60; events++ {
			r, errno := Run(g.program, g.input, g.limits, events)
			at := min(max(events, 0), len(w.past)-1)
			count := min(at, len(w.events))
			if errno != api.OK || !stands(r, w.past[at], count) || !slices.Equal(r.Events, w.events[:count]) {
				t.Fatalf("%s, %v, %v: Run to %d: %d, %v, want %v", g.text, g.input, g.limits, events, errno, r, w.past[at])
			}
			if !begins(ran.Events, r.Events) || !strings.HasPrefix(r.Output, ran.Output) || r.Input < ran.Input {
				t.Fatalf("%s, %v, %v: Run to %d does not add to the one before: %v, %v", g.text, g.input, g.limits, events, ran, r)
			}
			ran = r
		}
	}
}

// owner tells the function that a node stands in.
func owner(nodes []api.Node, n int) int {
	for nodes[n].Kind != api.KFunc {
		n--
	}
	return n
}

// fits tells whether an event fits the program, as P11.7 says it.
func fits(p api.Program, e api.Event) bool {
	nodes := p.Tree.Nodes
	node := nodes[e.Node]
	bare := e.Name == "" && e.Value == api.Value{}
	isBody := func() bool { return node.Kind == api.KBlock && isLastKid(nodes, owner(nodes, e.Node), e.Node) }
	switch e.Kind {
	case api.EvStmt:
		return bare && node.Kind >= api.KVar && node.Kind < api.KHook
	case api.EvEnter, api.EvExit:
		return bare && node.Kind == api.KBlock && !isBody()
	case api.EvCall:
		return node.Kind == api.KFunc && e.Name == node.Name && e.Value == api.Value{}
	case api.EvLeave:
		return bare && node.Kind == api.KFunc
	case api.EvReturn:
		return node.Kind == api.KReturn && e.Name == "" && e.Value.Kind == kindOf(nodes[owner(nodes, e.Node)].Type)
	case api.EvSet:
		switch node.Kind {
		case api.KParam, api.KVar:
			return e.Name == node.Name && e.Value.Kind == kindOf(node.Type)
		case api.KFor:
			return e.Name == node.Name && e.Value.Kind == api.ValInt
		case api.KAssign, api.KRead:
			place := nodes[e.Node+1]
			return place.Kind == api.KName && e.Name == place.Name && e.Value.Kind == kindOf(p.Types[e.Node+1])
		}
	case api.EvTouch:
		root := e.Node + 1
		for nodes[root].Kind == api.KIndex {
			root++
		}
		return (node.Kind == api.KAssign || node.Kind == api.KRead) && root > e.Node+1 && e.Name == nodes[root].Name && e.Value.Kind == api.ValRef
	}
	return false
}

func isLastKid(nodes []api.Node, f, n int) bool {
	kid := f + 1
	for nodes[kid].Kind == api.KParam {
		kid++
	}
	return kid == n
}

// dead tells the nodes that stand in dead statements.
func dead(p api.Program) map[int]bool {
	inside := map[int]bool{}
	for _, d := range flow.Dead(p.Tree) {
		for n := d; n < d+p.Tree.Nodes[d].Size; n++ {
			inside[n] = true
		}
	}
	return inside
}

// frames tells how many calls have begun and not ended.
func frames(events []api.Event) int {
	count := 0
	for _, e := range events {
		switch e.Kind {
		case api.EvCall:
			count++
		case api.EvReturn, api.EvLeave:
			count--
		}
	}
	return count
}

// P11.7, P11.8: what is told fits the program, and traps have their reasons.
func TestFits(t *testing.T) {
	for seed := range seeds(6000) {
		g := grow(t, 100000+seed)
		r, _ := Run(g.program, g.input, g.limits, 300)
		if first := r.Events[0]; first.Kind != api.EvCall || first.Name != "main" {
			t.Fatalf("%s: the first event is %v", g.text, first)
		}
		never := dead(g.program)
		for at, e := range r.Events {
			if !fits(g.program, e) || never[e.Node] {
				t.Fatalf("%s: event %d is %v", g.text, at+1, e)
			}
			if there := frames(r.Events[:at+1]); there > g.limits.Depth {
				t.Fatalf("%s: %d frames behind event %d", g.text, there, at+1)
			}
		}
		switch trap := r.Outcome.Trap; {
		case trap == api.TrapStuck:
			t.Fatalf("%s: stuck", g.text)
		case trap == api.TrapInput && r.Input < len(g.input):
			t.Fatalf("%s: no number left behind %d of %d", g.text, r.Input, len(g.input))
		case trap == api.TrapDepth && frames(r.Events) != g.limits.Depth:
			t.Fatalf("%s: too deep with %d frames of %d", g.text, frames(r.Events), g.limits.Depth)
		}
	}
}

// P11.9: what was not needed does not count.
func TestUnneeded(t *testing.T) {
	for seed := range seeds(4000) {
		g := grow(t, 200000+seed)
		deeper, wider := g.limits, g.limits
		deeper.Depth += 1 + int(seed)%40
		wider.Cells += 1 + int(seed)%400
		longer := append(slices.Clone(g.input), 1, 0, 2)
		ran, _ := Run(g.program, g.input, g.limits, 200)
		for _, more := range []struct {
			input  []int64
			limits api.Limits
			want   api.Trap
		}{{g.input, deeper, api.TrapDepth}, {g.input, wider, api.TrapHeap}, {longer, g.limits, api.TrapInput}} {
			r, _ := Run(g.program, more.input, more.limits, 200)
			if ran.Outcome.Trap == more.want {
				if !begins(ran.Events, r.Events) || r.Outcome == ran.Outcome && len(r.Events) == len(ran.Events) && more.want != api.TrapHeap {
					t.Fatalf("%s: with more than %v, %v it is another run", g.text, g.input, g.limits)
				}
			} else if !sameRun(r, ran) {
				t.Fatalf("%s: with more than %v, %v it is another run, for want of nothing", g.text, g.input, g.limits)
			}
		}
	}
}

// Hooks do nothing: the run is the same as without them, but for the numbers of the nodes.
func TestHooks(t *testing.T) {
	hooked := 0
	for seed := range seeds(4000) {
		g := grow(t, 2*seed+1)
		bare := erased(t, g)
		if len(bare.program.Tree.Nodes) < len(g.program.Tree.Nodes) {
			hooked++
		}
		numbers := unhooked(g.program.Tree.Nodes)
		one, _ := Run(g.program, g.input, g.limits, 200)
		other, _ := Run(bare.program, g.input, g.limits, 200)
		for at := range one.Events {
			one.Events[at].Node = numbers[one.Events[at].Node]
		}
		if !sameRun(one, other) {
			t.Fatalf("%s: %v, without hooks %v", g.text, one, other)
		}
	}
	if hooked < 100 {
		t.Errorf("only %d programs had hooks", hooked)
	}
}

// unhooked tells the numbers that nodes have in the tree without hooks.
func unhooked(nodes []api.Node) []int {
	var numbers []int
	next := 0
	for _, node := range nodes {
		numbers = append(numbers, next)
		if node.Kind != api.KHook {
			next++
		}
	}
	return numbers
}

// erased is the program without its hooks.
func erased(t *testing.T, g grown) grown {
	var nodes []api.Node
	for n, node := range g.program.Tree.Nodes {
		hooks := 0
		for _, inner := range g.program.Tree.Nodes[n : n+node.Size] {
			if inner.Kind == api.KHook {
				hooks++
			}
		}
		node.Size -= hooks
		if node.Kind == api.KReturn {
			node.Int = 0
		}
		if node.Kind != api.KHook {
			nodes = append(nodes, node)
		}
	}
	p, problem := flow.Tree(api.Tree{Nodes: nodes})
	if problem.Code != api.OK {
		t.Fatalf("%s: without hooks: %v", g.text, problem)
	}
	return grown{g.text, p, g.input, g.limits}
}

// Two machines of one program share nothing, and neither hangs on the other.
func TestApart(t *testing.T) {
	for seed := range seeds(500) {
		g := grow(t, 300000+seed)
		w := meant(g.program, g.input, g.limits, 100)
		var machines []*Machine
		for range 3 {
			m, _ := New(g.program, g.input, g.limits)
			machines = append(machines, m)
		}
		// They go on at paces of their own.
		told := make([][]api.Event, 3)
		for range w.events {
			for i, m := range machines {
				for range i + 1 {
					if e, more := m.Step(); more && len(told[i]) < len(w.events) {
						told[i] = append(told[i], e)
					}
				}
			}
		}
		for i := range machines {
			if !reflect.DeepEqual(told[i], w.events) {
				t.Fatalf("%s: machine %d told %v, want %v", g.text, i, told[i], w.events)
			}
		}
	}
}
