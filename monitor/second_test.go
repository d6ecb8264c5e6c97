package monitor

import (
	"fmt"
	"slices"
	"testing"

	"retrace/api"
	"retrace/events"
	"retrace/points"
	"retrace/view"
	"retrace/vm"
)

// plainRun is a run, position by position, as a machine tells it that is never stopped and never goes back: marks, results and frames by position, events[n] the one at position n + 1.
type plainRun struct {
	built   events.Built
	input   []int64
	limits  api.Limits
	events  []api.Event
	marks   []int
	results []api.Run
	frames  [][]api.Frame
	ends    bool // within the instructions that were done
	end     api.Run
}

var enough = api.Limits{Depth: 12, Cells: 200}

// plainly goes through a run, for as many instructions as lead to the last of so many events, or to the end.
func plainly(t testing.TB, text string, l api.Limits, most int, input ...int64) *plainRun {
	t.Helper()
	built, problem := events.Build(text)
	if problem.Code != api.OK {
		t.Fatalf("%.3000q: %+v", text, problem)
	}
	machine, errno := vm.New(built.Code, input, l)
	if errno != api.OK {
		t.Fatalf("vm: %d", errno)
	}
	seen, errno := view.New(built.Program)
	if errno != api.OK {
		t.Fatalf("view: %d", errno)
	}
	r := &plainRun{built: built, input: input, limits: l, marks: []int{0}, results: []api.Run{machine.Result()}, frames: [][]api.Frame{nil}}
	for len(r.events) < most {
		before := machine.Steps()
		yield, yields := machine.Step()
		if machine.Steps() == before {
			r.ends, r.end = true, machine.Result()
			return r
		}
		if !yields {
			continue
		}
		event, errno := events.Read(built.Table, yield)
		if errno != api.OK || seen.Take(event) != api.OK {
			t.Fatalf("%q: the event %+v", text, event)
		}
		r.events = append(r.events, event)
		r.marks = append(r.marks, machine.Steps())
		r.results = append(r.results, machine.Result())
		r.frames = append(r.frames, seen.Frames())
	}
	return r
}

// last is the greatest position that is known of the run.
func (r *plainRun) last() int { return len(r.events) }

// plainMonitor is the chapter's monitor, with nothing but where it stands in the run, and the points.
type plainMonitor struct {
	run    *plainRun
	table  *points.Table
	budget int
	at     int
	over   bool
}

func (p *plainMonitor) pointAt(at int) int {
	r := p.run
	return p.table.Match(r.built.Program, r.events[at-1], r.frames[at], r.results[at].Arrays)
}

func (p *plainMonitor) isStatement(at int) bool { return p.run.events[at-1].Kind == api.EvStmt }

func (p *plainMonitor) depth(at int) int { return len(p.run.frames[at]) }

// answer is what Move tells; unknown, if it hangs on what is not known of the run.
type answer struct {
	stop    api.Stop
	errno   api.Errno
	unknown bool
}

func (p *plainMonitor) move(c api.Command) answer {
	isGoto := c.Kind == api.CmGoto
	if c.Kind < api.CmStep || c.Kind > api.CmGoto || c.Point != (api.Point{}) || c.Text != "" || c.N != 0 && !isGoto {
		return answer{errno: api.ErrArg}
	}
	begun := p.depth(p.at)
	if begun == 0 {
		begun = 1
	}
	switch c.Kind {
	case api.CmStep:
		return p.forward(p.isStatement)
	case api.CmNext:
		return p.forward(func(at int) bool { return p.isStatement(at) && p.depth(at) <= begun })
	case api.CmFinish:
		return p.forward(func(at int) bool { return p.depth(at) < begun })
	case api.CmContinue:
		return p.forward(func(int) bool { return false })
	case api.CmBack:
		return p.back(func(int) bool { return true }, false)
	case api.CmRnext:
		return p.back(func(at int) bool { return p.isStatement(at) && p.depth(at) <= begun }, false)
	case api.CmRfinish:
		return p.back(func(at int) bool { return p.depth(at) < begun }, false)
	case api.CmRcontinue:
		return p.back(func(at int) bool { return p.pointAt(at) != 0 }, true)
	}
	to := max(c.N, 0)
	if to <= p.at {
		p.at, p.over = to, false
		return answer{stop: api.Stop{Kind: api.StopGoto, At: to}}
	}
	return p.on(func(at int) api.Stop {
		if at == to {
			return api.Stop{Kind: api.StopGoto, At: at}
		}
		return api.Stop{}
	})
}

func (p *plainMonitor) forward(wants func(at int) bool) answer {
	return p.on(func(at int) api.Stop {
		if n := p.pointAt(at); n != 0 {
			return api.Stop{Kind: api.StopPoint, At: at, Point: n}
		}
		if wants(at) {
			return api.Stop{Kind: api.StopStep, At: at}
		}
		return api.Stop{}
	})
}

// on goes forward to the first position that has a stop; the budget is used up by the whole way.
func (p *plainMonitor) on(stopAt func(at int) api.Stop) answer {
	if p.over {
		return answer{errno: api.ErrOver}
	}
	from, r := p.at, p.run
	for at := from + 1; at <= r.last(); at++ {
		if r.marks[at]-r.marks[from] > p.budget {
			return p.usedUp(at - 1)
		}
		if stop := stopAt(at); stop.Kind != 0 {
			p.at = at
			return answer{stop: stop}
		}
	}
	if !r.ends {
		return answer{unknown: true}
	}
	if r.end.Steps-r.marks[from] > p.budget {
		return p.usedUp(r.last())
	}
	p.at, p.over = r.last(), true
	return answer{stop: api.Stop{Kind: api.StopEnd, At: p.at}}
}

func (p *plainMonitor) usedUp(at int) answer {
	p.at = at
	return answer{stop: api.Stop{Kind: api.StopBudget, At: at}, errno: api.ErrBudget}
}

func (p *plainMonitor) back(wants func(at int) bool, points bool) answer {
	if p.at == 0 && !p.over {
		return answer{errno: api.ErrStart}
	}
	at := p.at
	if !p.over {
		at--
	}
	for at > 0 && !wants(at) {
		at--
	}
	p.at, p.over = at, false
	switch {
	case at == 0:
		return answer{stop: api.Stop{Kind: api.StopStart}}
	case points:
		return answer{stop: api.Stop{Kind: api.StopPoint, At: at, Point: p.pointAt(at)}}
	}
	return answer{stop: api.Stop{Kind: api.StopStep, At: at}}
}

func (p *plainMonitor) set(c api.Command) (int, api.Errno) {
	errno := api.ErrArg
	kind := c.Point.Kind
	switch {
	case c.Text != "":
	case c.Kind == api.CmBreak && c.N == 0 && (kind == api.PtLine || kind == api.PtFunc), c.Kind == api.CmWatch && c.N == 0 && kind == api.PtWatch:
		return p.table.Add(c.Point)
	case c.Point != api.Point{}:
	case c.Kind == api.CmDelete:
		errno = p.table.Delete(c.N)
	case c.Kind == api.CmEnable:
		errno = p.table.Turn(c.N, false)
	case c.Kind == api.CmDisable:
		errno = p.table.Turn(c.N, true)
	}
	if errno != api.OK {
		return 0, errno
	}
	return c.N, api.OK
}

// pair is a monitor beside the plain one: every command is told to both.
type pair struct {
	testing.TB
	monitor  *Monitor
	plain    plainMonitor
	commands string
}

func (r *plainRun) pair(t testing.TB, budget int) *pair {
	t.Helper()
	m, errno := New(r.built, r.input, r.limits, budget)
	if errno != api.OK || m == nil {
		t.Fatalf("P22.1: New = %v, %d", m, errno)
	}
	return &pair{TB: t, monitor: m, plain: plainMonitor{run: r, table: points.New(), budget: max(budget, 0)}}
}

func (p *pair) wrong(promise string, got, want any) {
	p.Helper()
	p.Fatalf("%s: %.3000q, input %v, budget %d, commands%s: %+v, want %+v", promise, p.plain.run.built.Program.Text, p.plain.run.input, p.plain.budget, p.commands, got, want)
}

// told adds to what is told of a pair that goes wrong; no more of it than can be read.
func (p *pair) told(c api.Command) {
	if len(p.commands) > 1000 {
		p.commands = " .." + p.commands[len(p.commands)-600:]
	}
	p.commands += fmt.Sprintf(" %+v", c)
}

// moves does a command, if it is known of the run where that leads.
func (p *pair) moves(c api.Command) answer {
	p.Helper()
	p.told(c)
	want := p.plain.move(c)
	if want.unknown {
		return want
	}
	if stop, errno := p.monitor.Move(c); stop != want.stop || errno != want.errno {
		p.wrong("P22.2 to P22.6", []any{stop, errno}, want)
	}
	return want
}

func (p *pair) does(kind api.CommandKind) answer {
	p.Helper()
	return p.moves(api.Command{Kind: kind})
}

func (p *pair) goesTo(at int) answer {
	p.Helper()
	return p.moves(api.Command{Kind: api.CmGoto, N: at})
}

// comes brings the monitor to a place that is known of the run; the budget must lead from one event to the next.
func (p *pair) comes(at int, over bool) {
	p.Helper()
	if p.plain.over && !over {
		p.goesTo(p.plain.at)
	}
	for over && !p.plain.over || p.plain.at != at {
		if over {
			p.goesTo(p.plain.run.last() + 1)
		} else {
			p.goesTo(at)
		}
	}
}

func (p *pair) sets(c api.Command) (int, api.Errno) {
	p.Helper()
	p.told(c)
	n, errno := p.monitor.Set(c)
	if want, wantErrno := p.plain.set(c); n != want || errno != wantErrno {
		p.wrong("P22.7", []any{n, errno}, []any{want, wantErrno})
	}
	return n, errno
}

// adds sets a point of any kind.
func (p *pair) adds(point api.Point) {
	p.Helper()
	kind := api.CmBreak
	if point.Kind == api.PtWatch {
		kind = api.CmWatch
	}
	p.sets(api.Command{Kind: kind, Point: point})
}

// stands holds all that is shown where the monitor stands against the plain one.
func (p *pair) stands() {
	p.Helper()
	m, r, at := p.monitor, p.plain.run, p.plain.at
	if m.At() != at {
		p.wrong("P22.8: At", m.At(), at)
	}
	var want api.Event
	if at > 0 {
		want = r.events[at-1]
	}
	if last, some := m.Last(); last != want || some != (at > 0) {
		p.wrong("P22.8: Last", last, want)
	}
	if got := m.Frames(); !sameFrames(got, r.frames[at]) {
		p.wrong("P22.8: Frames", got, r.frames[at])
	}
	result := r.results[at]
	if p.plain.over {
		result = r.end
	}
	if got := m.Result(); !sameRun(got, result) {
		p.wrong("P22.8: Result", got, result)
	}
	p.hasPoints()
}

func (p *pair) hasPoints() {
	p.Helper()
	numbers, list := p.monitor.Points()
	if want := p.plain.table.Numbers(); !slices.Equal(numbers, want) || len(list) != len(numbers) {
		p.wrong("P22.7: Points", numbers, want)
	}
	for n, got := range list {
		if want, _ := p.plain.table.Get(numbers[n]); got != want {
			p.wrong("P22.7: Points", got, want)
		}
	}
}

func sameFrames(a, b []api.Frame) bool {
	return slices.EqualFunc(a, b, func(a, b api.Frame) bool {
		return a.Func == b.Func && a.Node == b.Node && slices.Equal(a.Vars, b.Vars)
	})
}

// sameRun tells whether two results are the same, neither of which is to have events.
func sameRun(a, b api.Run) bool {
	return a.Outcome == b.Outcome && a.Output == b.Output && a.Input == b.Input && a.Steps == b.Steps &&
		len(a.Events) == 0 && len(b.Events) == 0 && slices.EqualFunc(a.Arrays, b.Arrays, slices.Equal[[]api.Value])
}
