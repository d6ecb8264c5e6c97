package session

import (
	"fmt"
	"strings"
	"testing"

	"retrace/api"
	"retrace/command"
	"retrace/cond"
	"retrace/events"
	"retrace/points"
	"retrace/source"
	"retrace/view"
	"retrace/vm"
)

// plainRun is a run, position by position, as a machine tells it that is never stopped and never goes back: marks, results and frames by position, events[n] the one at position n + 1.
type plainRun struct {
	text    string
	program api.Program
	input   []int64
	limits  api.Limits
	events  []api.Event
	marks   []int
	results []api.Run
	frames  [][]api.Frame
	ends    bool // within the instructions that were done
	end     api.Run
}

// plainly goes through a run, for as many instructions as lead to the last of so many events, or to the end.
func plainly(t testing.TB, text string, l api.Limits, most int, input ...int64) *plainRun {
	t.Helper()
	built, problem := events.Build(text)
	if problem.Code != api.OK {
		t.Fatalf("%.3000q: %+v", text, problem)
	}
	machine, errno := vm.New(built.Code, input, l)
	if errno != api.OK {
		t.Fatalf("vm: %d", errno)
	}
	seen, errno := view.New(built.Program)
	if errno != api.OK {
		t.Fatalf("view: %d", errno)
	}
	r := &plainRun{text: text, program: built.Program, input: input, limits: l, marks: []int{0}, results: []api.Run{machine.Result()}, frames: [][]api.Frame{nil}}
	for len(r.events) < most {
		before := machine.Steps()
		yield, yields := machine.Step()
		if machine.Steps() == before {
			r.ends, r.end = true, machine.Result()
			return r
		}
		if !yields {
			continue
		}
		event, errno := events.Read(built.Table, yield)
		if errno != api.OK || seen.Take(event) != api.OK {
			t.Fatalf("%q: the event %+v", text, event)
		}
		r.events = append(r.events, event)
		r.marks = append(r.marks, machine.Steps())
		r.results = append(r.results, machine.Result())
		r.frames = append(r.frames, seen.Frames())
	}
	return r
}

// last is the greatest position that is known of the run.
func (r *plainRun) last() int { return len(r.events) }

// plainSession is the chapter's session, with nothing but where it stands in the run, and the points.
type plainSession struct {
	run    *plainRun
	table  *points.Table
	budget int
	at     int
	over   bool
}

// do tells what is answered to a line; unknown, if it hangs on what is not known of the run.
func (p *plainSession) do(line string) (r api.Response, unknown bool) {
	c, errno := command.Parse(line)
	switch {
	case errno != api.OK:
		return api.Response{Status: errno}, false
	case c.Kind >= api.CmStep && c.Kind <= api.CmGoto:
		return p.move(c)
	case c.Kind <= api.CmDisable:
		r.Lines, r.Status = p.set(c)
	default:
		r.Lines, r.Status = p.ask(c)
	}
	if r.Status != api.OK {
		return api.Response{Status: r.Status}, false
	}
	r.Stop.At = p.at
	return r, false
}

func (p *plainSession) set(c api.Command) ([]string, api.Errno) {
	switch c.Kind {
	case api.CmDelete:
		return []string{fmt.Sprintf("point %d deleted", c.N)}, p.table.Delete(c.N)
	case api.CmEnable:
		return []string{fmt.Sprintf("point %d on", c.N)}, p.table.Turn(c.N, false)
	case api.CmDisable:
		return []string{fmt.Sprintf("point %d off", c.N)}, p.table.Turn(c.N, true)
	}
	n, errno := p.table.Add(c.Point)
	return []string{fmt.Sprintf("point %d", n)}, errno
}

// place is the offset in the source of what a frame is at, and its line.
func (p *plainSession) place(f api.Frame) (at, line int) {
	program := p.run.program
	n := f.Node
	if n == 0 {
		n = program.Scoped.Funcs[f.Func].Node
	}
	place, _ := source.Where(p.run.text, program.Tree.Nodes[n].At)
	return program.Tree.Nodes[n].At, place.Line
}

func (p *plainSession) result() api.Run {
	if p.over {
		return p.run.end
	}
	return p.run.results[p.at]
}

func (p *plainSession) ask(c api.Command) (lines []string, errno api.Errno) {
	frames, arrays := p.run.frames[p.at], p.result().Arrays
	var vars []api.Shown
	at, line := 0, 0
	if len(frames) > 0 {
		vars = frames[0].Vars
		at, line = p.place(frames[0])
	}
	none := ""
	switch c.Kind {
	case api.CmPoints:
		none, lines = "no points", p.points()
	case api.CmPrint:
		v, errno := cond.Eval(c.Text, vars, arrays)
		return []string{fmt.Sprintf("%s = %s", c.Text, cond.Deep(v, arrays, 3))}, errno
	case api.CmLocals:
		none = "no variables"
		for _, v := range vars {
			lines = append(lines, fmt.Sprintf("%s: %s = %s", v.Var.Name, v.Var.Type, cond.Deep(v.Value, arrays, 3)))
		}
	case api.CmStack:
		none = "no frames"
		for n, f := range frames {
			_, line := p.place(f)
			lines = append(lines, fmt.Sprintf("#%d %s line %d", n, p.run.program.Scoped.Funcs[f.Func].Name, line))
		}
	case api.CmWhere:
		none = "no frames"
		if len(frames) > 0 {
			shown, _ := source.Line(p.run.text, line)
			lines = []string{fmt.Sprintf("%s line %d: %s", p.run.program.Scoped.Funcs[frames[0].Func].Name, line, shown)}
		}
	case api.CmList:
		lines, _ = source.Excerpt(p.run.text, at, 2)
	case api.CmOutput:
		none = "no output"
		if output := p.result().Output; output != "" {
			lines = strings.Split(strings.TrimSuffix(output, "\n"), "\n")
		}
	case api.CmEvent:
		none = "no event"
		if p.at > 0 {
			lines = []string{command.Event(p.run.events[p.at-1])}
		}
	}
	if len(lines) == 0 {
		lines = []string{none}
	}
	return lines, api.OK
}

func (p *plainSession) points() (lines []string) {
	for _, n := range p.table.Numbers() {
		point, _ := p.table.Get(n)
		what := "break " + point.Name
		switch point.Kind {
		case api.PtLine:
			what = fmt.Sprintf("break %d", point.Line)
		case api.PtWatch:
			what = "watch " + point.Name
		}
		if point.Cond != "" {
			what += " if " + point.Cond
		}
		if point.Off {
			what += " (off)"
		}
		lines = append(lines, fmt.Sprintf("%d: %s", n, what))
	}
	return lines
}

func (p *plainSession) pointAt(at int) int {
	r := p.run
	return p.table.Match(r.program, r.events[at-1], r.frames[at], r.results[at].Arrays)
}

// wanted tells which positions a command wants, that begins where the session stands.
func (p *plainSession) wanted(kind api.CommandKind) func(at int) bool {
	begun := max(len(p.run.frames[p.at]), 1)
	depth := func(at int) int { return len(p.run.frames[at]) }
	isStatement := func(at int) bool { return p.run.events[at-1].Kind == api.EvStmt }
	switch kind {
	case api.CmStep:
		return isStatement
	case api.CmNext, api.CmRnext:
		return func(at int) bool { return isStatement(at) && depth(at) <= begun }
	case api.CmFinish, api.CmRfinish:
		return func(at int) bool { return depth(at) < begun }
	case api.CmBack:
		return func(int) bool { return true }
	case api.CmRcontinue:
		return func(at int) bool { return p.pointAt(at) != 0 }
	}
	return func(int) bool { return false }
}

// move goes where a command leads, and tells it.
func (p *plainSession) move(c api.Command) (api.Response, bool) {
	var stop api.Stop
	var errno api.Errno
	unknown := false
	switch {
	case c.Kind == api.CmGoto && max(c.N, 0) <= p.at:
		p.at, p.over = max(c.N, 0), false
		stop = api.Stop{Kind: api.StopGoto}
	case c.Kind == api.CmGoto:
		stop, errno, unknown = p.on(func(at int) api.Stop {
			if at == c.N {
				return api.Stop{Kind: api.StopGoto}
			}
			return api.Stop{}
		})
	case c.Kind >= api.CmBack:
		stop, errno = p.back(p.wanted(c.Kind), c.Kind == api.CmRcontinue)
	default:
		wants := p.wanted(c.Kind)
		stop, errno, unknown = p.on(func(at int) api.Stop {
			if n := p.pointAt(at); n != 0 {
				return api.Stop{Kind: api.StopPoint, Point: n}
			}
			if wants(at) {
				return api.Stop{Kind: api.StopStep}
			}
			return api.Stop{}
		})
	}
	if unknown || errno != api.OK && errno != api.ErrBudget {
		return api.Response{Status: errno}, unknown
	}
	stop.At = p.at
	r := api.Response{Status: errno, Stop: stop, Lines: []string{command.Stop(stop, p.result().Outcome)}}
	if len(p.run.frames[p.at]) > 0 {
		here, _ := p.ask(api.Command{Kind: api.CmWhere})
		r.Lines = append(r.Lines, here...)
	}
	return r, false
}

// on goes forward to the first position that has a stop; the budget is used up by the whole way.
func (p *plainSession) on(stopAt func(at int) api.Stop) (stop api.Stop, errno api.Errno, unknown bool) {
	if p.over {
		return api.Stop{}, api.ErrOver, false
	}
	from, r := p.at, p.run
	for at := from + 1; at <= r.last(); at++ {
		if r.marks[at]-r.marks[from] > p.budget {
			p.at = at - 1
			return api.Stop{Kind: api.StopBudget}, api.ErrBudget, false
		}
		if stop := stopAt(at); stop.Kind != 0 {
			p.at = at
			return stop, api.OK, false
		}
	}
	if !r.ends {
		return api.Stop{}, api.OK, true
	}
	p.at = r.last()
	if r.end.Steps-r.marks[from] > p.budget {
		return api.Stop{Kind: api.StopBudget}, api.ErrBudget, false
	}
	p.over = true
	return api.Stop{Kind: api.StopEnd}, api.OK, false
}

func (p *plainSession) back(wants func(at int) bool, points bool) (api.Stop, api.Errno) {
	if p.at == 0 && !p.over {
		return api.Stop{}, api.ErrStart
	}
	at := p.at
	if !p.over {
		at--
	}
	for at > 0 && !wants(at) {
		at--
	}
	p.at, p.over = at, false
	switch {
	case at == 0:
		return api.Stop{Kind: api.StopStart}, api.OK
	case points:
		return api.Stop{Kind: api.StopPoint, Point: p.pointAt(at)}, api.OK
	}
	return api.Stop{Kind: api.StopStep}, api.OK
}

// pair is a session beside the plain one: every line is told to both.
type pair struct {
	testing.TB
	session *Session
	plain   plainSession
	lines   string
}

func (r *plainRun) pair(t testing.TB, budget int) *pair {
	t.Helper()
	s := sessionOf(t, r.text, r.limits, budget, r.input...)
	return &pair{TB: t, session: s, plain: plainSession{run: r, table: points.New(), budget: max(budget, 0)}}
}

// does does a line, if it is known of the run where that leads.
func (p *pair) does(line string) (r api.Response, unknown bool) {
	p.Helper()
	if len(p.lines) > 1000 {
		p.lines = ".." + p.lines[len(p.lines)-600:]
	}
	p.lines += line + "\n"
	want, unknown := p.plain.do(line)
	if unknown {
		return want, true
	}
	r = p.session.Do(line)
	if !same(r, want) {
		p.wrong("P0.8, P24.2", r, want)
	}
	if p.session.At() != p.plain.at {
		p.wrong("P24.3", p.session.At(), p.plain.at)
	}
	return r, false
}

func (p *pair) wrong(promise string, got, want any) {
	p.Helper()
	p.Fatalf("%s: %.3000q, input %v, limits %+v, budget %d, behind\n%s%+v, want %+v", promise, p.plain.run.text, p.plain.run.input, p.plain.run.limits, p.plain.budget, p.lines, got, want)
}

// asking are lines that only ask, with expressions of all kinds.
var asking = []string{"locals", "stack", "where", "list", "output", "event", "points", "print 1", "print n", "print x", "print a", "print x + 1 > 2", "print len(a)", "print a[0]", "print l", "print l[1] / l[0]", "print s + \"!\"", "print i", "print \"a\" == \"b\"", "print (", "jump", ""}

// asks asks all of them.
func (p *pair) asks() {
	p.Helper()
	for _, line := range asking {
		p.does(line)
	}
}

// comes brings the session to a place that is known of the run; the budget must lead from one event to the next.
func (p *pair) comes(at int, over bool) {
	p.Helper()
	if p.plain.over && !over {
		p.does(fmt.Sprintf("goto %d", p.plain.at))
	}
	for over && !p.plain.over || p.plain.at != at {
		if over {
			p.does(fmt.Sprintf("goto %d", p.plain.run.last()+1))
		} else {
			p.does(fmt.Sprintf("goto %d", at))
		}
	}
}

// places are those of the run that are known: its positions, and the end as the one behind the last.
func (r *plainRun) places() int {
	if r.ends {
		return r.last() + 2
	}
	return r.last() + 1
}
