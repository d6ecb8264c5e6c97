package vm

import (
	"slices"
	"strings"
	"testing"

	"retrace/api"
	"retrace/code"
)

// pair is a machine and its state as the chapter's words have it.
type pair struct {
	m  *Machine
	st state
}

// assembled is the code of assembler text, ";" for line feeds.
func assembled(t *testing.T, text string) api.Code {
	t.Helper()
	c, errno, line := code.Assemble(strings.ReplaceAll(text, ";", "\n"))
	if errno != api.OK {
		t.Fatalf("%q: %d at line %d", text, errno, line)
	}
	return c
}

// news makes a machine, or holds the error against the chapter's.
func news(t *testing.T, c api.Code, input []int64, l api.Limits) (*pair, api.Errno) {
	t.Helper()
	m, errno := New(c, input, l)
	st, want := begun(c, input, l)
	if errno != want || (m == nil) != (errno != api.OK) {
		t.Fatalf("New of %s, %d numbers, %v: %v, %d, want %d", told(c), len(input), l, m, errno, want)
	}
	if errno != api.OK {
		return nil, errno
	}
	p := &pair{m, st}
	p.agrees(t)
	return p, errno
}

func runs(t *testing.T, c api.Code, input []int64, l api.Limits) *pair {
	t.Helper()
	p, errno := news(t, c, input, l)
	if errno != api.OK {
		t.Fatalf("%s: %d", told(c), errno)
	}
	return p
}

// loads makes a machine of bytes, or holds the error against the chapter's; what is made has these bytes.
func loads(t *testing.T, c api.Code, input []int64, l api.Limits, text string) (*pair, api.Errno) {
	t.Helper()
	m, errno := Load(c, input, l, text)
	st, want := loaded(c, input, l, text)
	if errno != want || (m == nil) != (errno != api.OK) {
		t.Fatalf("Load of %s, %v, %x: %v, %d, want %d", told(c), l, text, m, errno, want)
	}
	if errno != api.OK {
		return nil, errno
	}
	if saved := m.Save(); saved != text {
		t.Fatalf("Load of %s, %x saves to %x", told(c), text, saved)
	}
	p := &pair{m, st}
	p.agrees(t)
	return p, errno
}

func sameRun(a, b api.Run) bool {
	return a.Outcome == b.Outcome && a.Output == b.Output && a.Input == b.Input && a.Steps == b.Steps && len(a.Events) == len(b.Events) && slices.EqualFunc(a.Arrays, b.Arrays, slices.Equal)
}

// agrees asks a machine all that can be asked, twice: asking changes nothing (P16.5, P16.6).
func (p *pair) agrees(t *testing.T) {
	t.Helper()
	saved, run := p.st.save(), p.st.result()
	for range 2 {
		if got := p.m.Save(); got != saved {
			t.Fatalf("%s: Save is %x, want %x", told(p.st.c), got, saved)
		}
		if got := p.m.Result(); !sameRun(got, run) {
			t.Fatalf("%s: Result is %v, want %v", told(p.st.c), got, run)
		}
		if p.m.Steps() != run.Steps || p.m.Depth() != len(p.st.frames) {
			t.Fatalf("%s: %d steps, %d frames, want %d, %d", told(p.st.c), p.m.Steps(), p.m.Depth(), run.Steps, len(p.st.frames))
		}
	}
}

// step does a step of both.
func (p *pair) step(t *testing.T) yield {
	t.Helper()
	before := p.st
	y, yields := p.m.Step()
	next, want := p.st.step()
	p.st = next
	if got := (yield{y, yields}); got != want {
		t.Fatalf("%s, behind %x: Step is %v, want %v", told(p.st.c), before.save(), got, want)
	}
	p.agrees(t)
	p.follows(t, before)
	return want
}

// follows: what P16.10 says comes of a step.
func (p *pair) follows(t *testing.T, before state) {
	t.Helper()
	now, then := before.result(), p.m.Result()
	keeps := strings.HasPrefix(then.Output, now.Output) && then.Input >= now.Input && len(then.Arrays) >= len(now.Arrays)
	for n := range now.Arrays {
		keeps = keeps && len(then.Arrays[n]) == len(now.Arrays[n])
	}
	more := p.m.Depth() - len(before.frames)
	if !keeps || more < -1 || more > 1 || p.m.Depth() > before.l.Depth {
		t.Fatalf("%s: behind %v comes %v", told(before.c), now, then)
	}
	switch trap := then.Outcome.Trap; {
	case now.Outcome.Phase != api.Running && then.Outcome != now.Outcome,
		then.Outcome != now.Outcome && trap == api.TrapInput && then.Input != len(before.input),
		then.Outcome != now.Outcome && trap == api.TrapDepth && p.m.Depth() != before.l.Depth:
		t.Fatalf("%s: behind %v comes %v", told(before.c), now, then)
	}
}

// run goes on for at most so many steps, one by one, and tells the yields.
func (p *pair) run(t *testing.T, steps int) []api.Yield {
	t.Helper()
	var yields []api.Yield
	for range steps {
		if p.st.outcome.Phase != api.Running {
			break
		}
		if y := p.step(t); y.yields {
			yields = append(yields, y.Yield)
		}
	}
	return yields
}

func (p *pair) clone() *pair { return &pair{p.m.Clone(), p.st} }
