package travel

import (
	"fmt"
	"slices"
	"testing"

	"retrace/api"
	"retrace/events"
	"retrace/view"
	"retrace/vm"
)

// plainRun is a run, position by position, as a machine tells it that is never stopped and never goes back: marks, results and frames by position, events[n] the one at position n + 1.
type plainRun struct {
	built   events.Built
	input   []int64
	limits  api.Limits
	events  []api.Event
	marks   []int
	results []api.Run
	frames  [][]api.Frame
	ends    bool // within the instructions that were done
	end     api.Run
}

var enough = api.Limits{Depth: 12, Cells: 200}

// plainly goes through a run, for as many instructions as lead to the last of so many events, or to the end.
func plainly(t testing.TB, text string, l api.Limits, most int, input ...int64) *plainRun {
	t.Helper()
	built, problem := events.Build(text)
	if problem.Code != api.OK {
		t.Fatalf("%.3000q: %+v", text, problem)
	}
	machine, errno := vm.New(built.Code, input, l)
	if errno != api.OK {
		t.Fatalf("vm: %d", errno)
	}
	seen, errno := view.New(built.Program)
	if errno != api.OK {
		t.Fatalf("view: %d", errno)
	}
	r := &plainRun{built: built, input: input, limits: l, marks: []int{0}, results: []api.Run{machine.Result()}, frames: [][]api.Frame{nil}}
	for len(r.events) < most {
		before := machine.Steps()
		yield, yields := machine.Step()
		if machine.Steps() == before {
			r.ends, r.end = true, machine.Result()
			return r
		}
		if !yields {
			continue
		}
		event, errno := events.Read(built.Table, yield)
		if errno != api.OK || seen.Take(event) != api.OK {
			t.Fatalf("%q: the event %+v", text, event)
		}
		r.events = append(r.events, event)
		r.marks = append(r.marks, machine.Steps())
		r.results = append(r.results, machine.Result())
		r.frames = append(r.frames, seen.Frames())
	}
	return r
}

// last is the greatest position that is known of the run.
func (r *plainRun) last() int { return len(r.events) }

// isKnown tells whether it is known of the run what comes behind a position.
func (r *plainRun) isKnown(at int) bool { return r.ends || at < r.last() }

// plainEngine is the chapter's engine, with nothing but where it stands in the run.
type plainEngine struct {
	run   *plainRun
	every int
	at    int
	over  bool
	far   int // the greatest position at which it has stood
}

// keptAt tells the greatest kept position that is not above one.
func (p *plainEngine) keptAt(at int) int {
	if p.every == 0 {
		return 0
	}
	gap := p.every
	for p.far/gap > 64 {
		gap *= 2
	}
	return at / gap * gap
}

// again is how many instructions lead from what is kept to a position.
func (p *plainEngine) again(at int) int {
	return p.run.marks[at] - p.run.marks[p.keptAt(at)]
}

// answer is what Forward tells, with the bounds of what Work may tell then.
type answer struct {
	event       api.Event
	done        int
	errno       api.Errno
	least, most int
}

func (p *plainEngine) forward(budget int) answer {
	if budget > api.MaxBudget {
		return answer{errno: api.ErrSize}
	}
	if p.over {
		return answer{errno: api.ErrOver}
	}
	if budget < 0 {
		budget = 0
	}
	mark := p.run.marks[p.at]
	if p.at < p.run.last() {
		if gap := p.run.marks[p.at+1] - mark; gap <= budget {
			p.at++
			p.far = max(p.far, p.at)
			return answer{p.run.events[p.at-1], gap, api.OK, gap, gap}
		}
	} else if left := p.run.end.Steps - mark; left <= budget {
		p.over = true
		return answer{api.Event{}, left, api.ErrOver, left, left}
	}
	return answer{api.Event{}, budget, api.ErrBudget, 0, budget + p.again(p.at)}
}

func (p *plainEngine) back(at int) (errno api.Errno, most int) {
	if at < 0 || at > p.at {
		return api.ErrRange, 0
	}
	if at == p.at && !p.over {
		return api.OK, 0
	}
	p.at, p.over = at, false
	return api.OK, p.again(at)
}

func (p *plainEngine) seen(at int) (api.Event, api.Errno) {
	if at < 1 || at > p.far {
		return api.Event{}, api.ErrRange
	}
	return p.run.events[at-1], api.OK
}

func (p *plainEngine) result() api.Run {
	if p.over {
		return p.run.end
	}
	return p.run.results[p.at]
}

// pair is an engine beside the plain one: every call is told to both.
type pair struct {
	testing.TB
	engine *Engine
	plain  plainEngine
	calls  string
}

func (r *plainRun) pair(t testing.TB, every int) *pair {
	t.Helper()
	engine, errno := New(r.built, r.input, r.limits, every)
	if errno != api.OK || engine == nil {
		t.Fatalf("P21.1: New = %v, %d", engine, errno)
	}
	return &pair{TB: t, engine: engine, plain: plainEngine{run: r, every: every}}
}

func (p *pair) wrong(promise string, got, want any) {
	p.Helper()
	p.Fatalf("%s: %.3000q, input %v, every %d, calls%s: %+v, want %+v", promise, p.plain.run.built.Program.Text, p.plain.run.input, p.plain.every, p.calls, got, want)
}

// called adds to what is told of a pair that goes wrong; no more of it than can be read.
func (p *pair) called(call string, argument int) {
	if len(p.calls) > 400 {
		p.calls = " .." + p.calls[len(p.calls)-200:]
	}
	p.calls += fmt.Sprintf(" %s(%d)", call, argument)
}

func (p *pair) worked(least, most int) {
	p.Helper()
	if got := p.engine.Work(); got < least || got > most {
		p.wrong("P21.6: Work", got, fmt.Sprintf("%d to %d", least, most))
	}
}

func (p *pair) forward(budget int) api.Errno {
	p.Helper()
	p.called("Forward", budget)
	event, done, errno := p.engine.Forward(budget)
	want := p.plain.forward(budget)
	if event != want.event || done != want.done || errno != want.errno {
		p.wrong("P21.3", []any{event, done, errno}, want)
	}
	p.worked(want.least, want.most)
	return errno
}

func (p *pair) back(at int) {
	p.Helper()
	p.called("Back", at)
	errno := p.engine.Back(at)
	want, most := p.plain.back(at)
	if errno != want {
		p.wrong("P21.4", errno, want)
	}
	p.worked(0, most)
}

func (p *pair) seen(at int) {
	p.Helper()
	event, errno := p.engine.Seen(at)
	if want, wantErrno := p.plain.seen(at); event != want || errno != wantErrno {
		p.wrong(fmt.Sprintf("P21.5: Seen(%d)", at), []any{event, errno}, []any{want, wantErrno})
	}
}

// stands holds all that is shown where the engine stands against the plain run.
func (p *pair) stands() {
	p.Helper()
	e, r := p.engine, p.plain.run
	at, result := p.plain.at, p.plain.result()
	if e.At() != at {
		p.wrong("P21.2: At", e.At(), at)
	}
	if e.Steps() != result.Steps || !p.plain.over && e.Steps() != r.marks[at] {
		p.wrong("P21.2: Steps", e.Steps(), result.Steps)
	}
	var want api.Event
	if at > 0 {
		want = r.events[at-1]
	}
	if last, some := e.Last(); last != want || some != (at > 0) {
		p.wrong("P21.2: Last", last, want)
	}
	if got := e.Frames(); !sameFrames(got, r.frames[at]) {
		p.wrong("P21.2: Frames", got, r.frames[at])
	}
	if got := e.Result(); !sameRun(got, result) {
		p.wrong("P21.2: Result", got, result)
	}
}

func sameFrames(a, b []api.Frame) bool {
	return slices.EqualFunc(a, b, func(a, b api.Frame) bool {
		return a.Func == b.Func && a.Node == b.Node && slices.Equal(a.Vars, b.Vars)
	})
}

// sameRun tells whether two results are the same, neither of which is to have events.
func sameRun(a, b api.Run) bool {
	return a.Outcome == b.Outcome && a.Output == b.Output && a.Input == b.Input && a.Steps == b.Steps &&
		len(a.Events) == 0 && len(b.Events) == 0 && slices.EqualFunc(a.Arrays, b.Arrays, slices.Equal[[]api.Value])
}
