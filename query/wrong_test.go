package query

import (
	"slices"
	"testing"

	"retrace/api"
)

// changed are programs of which one thing is another one, so that they are no checked ones.
func changed(p api.Program) map[string]api.Program {
	all := map[string]api.Program{}
	change := func(what string, how func(p *api.Program)) {
		own := p
		own.Tree.Nodes = slices.Clone(p.Tree.Nodes)
		s := &own.Scoped
		s.Funcs = slices.Clone(s.Funcs)
		for n := range s.Funcs {
			s.Funcs[n].Vars = slices.Clone(s.Funcs[n].Vars)
		}
		s.Slots, s.Calls, s.Targets, s.Owners = slices.Clone(s.Slots), slices.Clone(s.Calls), slices.Clone(s.Targets), slices.Clone(s.Owners)
		own.Types = slices.Clone(p.Types)
		how(&own)
		all[what] = own
	}
	change("nothing", func(p *api.Program) { *p = api.Program{} })
	change("its text alone", func(p *api.Program) { *p = api.Program{Text: p.Text} })
	change("no tree", func(p *api.Program) { p.Tree = api.Tree{} })
	change("no names", func(p *api.Program) { p.Scoped = api.Scoped{} })
	change("no types", func(p *api.Program) { p.Types = nil })
	change("no functions", func(p *api.Program) { p.Scoped.Funcs = nil })
	change("a function less", func(p *api.Program) { p.Scoped.Funcs = p.Scoped.Funcs[:1] })
	change("a function's name", func(p *api.Program) { p.Scoped.Funcs[0].Name = "other" })
	change("a variable's name", func(p *api.Program) { p.Scoped.Funcs[0].Vars[0].Name = "other" })
	change("a variable less", func(p *api.Program) { p.Scoped.Funcs[0].Vars = p.Scoped.Funcs[0].Vars[:1] })
	change("a variable's slot", func(p *api.Program) { p.Scoped.Funcs[0].Vars[0].Slot = 1 << 40 })
	change("slots", func(p *api.Program) { p.Scoped.Slots[2] = 99 })
	change("no slots", func(p *api.Program) { p.Scoped.Slots = nil })
	change("owners", func(p *api.Program) { p.Scoped.Owners[1] = 7 })
	change("no owners", func(p *api.Program) { p.Scoped.Owners = nil })
	change("a type", func(p *api.Program) { p.Types[len(p.Types)-1] += "x" })
	change("a size", func(p *api.Program) { p.Tree.Nodes[1].Size = -1 })
	change("a kind", func(p *api.Program) { p.Tree.Nodes[1].Kind = api.KVar })
	change("a node less", func(p *api.Program) { p.Tree.Nodes = p.Tree.Nodes[:len(p.Tree.Nodes)-1] })
	change("an offset", func(p *api.Program) { p.Tree.Nodes[3].At = -1 })
	return all
}

// Of what is no checked program no question is answered, whatever the question and the record are: ErrArg comes first.
func TestNotChecked(t *testing.T) {
	p, r := kept(t, ten, 100, 3)
	cut := of(r.Events[1:]...)
	for what, own := range changed(p) {
		if isChecked(own) {
			t.Fatalf("%s changed: it is a checked one still", what)
		}
		for _, record := range []api.Record{r, cut, {}} {
			refuses(t, own, record, false)
			for _, name := range []string{"x", "a", ""} {
				if l, errno := History(own, record, "main", name); l != nil || errno != api.ErrArg {
					t.Errorf("P26.1: %s changed: %v, %d", what, l, errno)
				}
			}
		}
	}
	if !isChecked(p) {
		t.Errorf("the program itself is none")
	}
}

// A program that the front did not make is a checked one all the same, whatever its text is; hooks in it change nothing.
func TestChecked(t *testing.T) {
	p, r := kept(t, ten, 100, 3)
	for _, source := range []string{"", "x", ten, ten + ten} {
		p.Text = source
		refuses(t, p, r, true)
		agreesAt(t, p, r, 4, 12)
	}
	p, r = kept(t, "fn f(n: int): int { @1; @2 n; return @3 n; } fn main() { @4; var n: int = f(7); @5 n; { @6; n = f(n); } @7; }", 100)
	agrees(t, p, r)
	nothingIsLost(t, p, r)
}

// What a question may not ask comes ahead of what does not fit, and behind what is no checked program.
func TestOrder(t *testing.T) {
	p, r := kept(t, ten, 100, 3)
	none := p
	none.Types = nil
	twice := of(slices.Concat(r.Events, r.Events)...)
	for _, c := range []struct {
		p                     api.Program
		r                     api.Record
		main, add, inside, up api.Errno
	}{
		{p, r, api.OK, api.ErrAsk, api.OK, api.ErrAsk},
		{p, twice, api.ErrFold, api.ErrAsk, api.ErrFold, api.ErrAsk},
		{none, r, api.ErrArg, api.ErrArg, api.ErrArg, api.ErrArg},
		{none, twice, api.ErrArg, api.ErrArg, api.ErrArg, api.ErrArg},
	} {
		for function, want := range map[string]api.Errno{"main": c.main, "add": c.add, "none": c.add} {
			if l, errno := History(c.p, c.r, function, "x"); errno != want || errno != api.OK && l != nil {
				t.Errorf("P26.1: History(%s) of %d events: %v, %d, want %d", function, len(c.r.Events), l, errno, want)
			}
		}
		last := len(c.r.Events)
		for at, want := range map[int]api.Errno{0: c.inside, 4: c.inside, last: c.inside, last + 1: c.up, -1: c.up, -1 << 63: c.up, 1<<63 - 1: c.up} {
			if n, errno := Setter(c.p, c.r, "x", at); errno != want || errno != api.OK && n != 0 {
				t.Errorf("P26.2: Setter(%d) of %d events: %d, %d, want %d", at, last, n, errno, want)
			}
			if l, errno := Frames(c.p, c.r, at); errno != want || errno != api.OK && l != nil {
				t.Errorf("P26.5: Frames(%d) of %d events: %v, %d, want %d", at, last, l, errno, want)
			}
		}
	}
}

// P26.1 to P26.5: what else is in a record makes no difference.
func TestRestOfRecord(t *testing.T) {
	p, r := kept(t, ten, 100, 3)
	for _, odd := range []api.Record{{}, {Outcome: api.Outcome{Phase: 9, Trap: -3}}, {Output: "x"}, {Input: -5}, {Input: 1 << 40, Outcome: api.Outcome{Phase: api.Trapped}}} {
		odd.Events = r.Events
		agreesAt(t, p, odd, 4, 12, 16)
	}
}
