package view

import (
	"slices"

	"retrace/api"
	"retrace/types"
	"retrace/value"
)

// fold is the events so far, laid one into the other.
type fold struct {
	outline
	frames []frame // the outermost first
	count  int
	last   api.Event
}

// rule is what a kind of event asks of the fold, and what it does to it. Whoever asks has seen that the node is one, and that there is a frame, if it is no call.
type rule struct {
	asks func(*fold, api.Event) bool
	does func(*fold, api.Event)
}

func ruleOf(kind api.EventKind) (r rule, known bool) {
	rules := [...]rule{
		api.EvStmt:   {(*fold).mayBegin, (*fold).begin},
		api.EvEnter:  {(*fold).mayEnter, (*fold).enter},
		api.EvExit:   {(*fold).mayExit, (*fold).comeOut},
		api.EvCall:   {(*fold).mayCall, (*fold).call},
		api.EvLeave:  {(*fold).mayLeave, (*fold).end},
		api.EvReturn: {(*fold).mayReturn, (*fold).end},
		api.EvSet:    {(*fold).maySet, (*fold).set},
		api.EvTouch:  {(*fold).mayTouch, (*fold).comeOut},
	}
	if kind < api.EvStmt || int(kind) >= len(rules) {
		return rule{}, false
	}
	return rules[kind], true
}

// goesOn tells whether there is a node for the event, and a frame, unless the first one is still to come.
func (f *fold) goesOn(e api.Event) bool {
	if e.Node < 0 || e.Node >= len(f.sites) {
		return false
	}
	return len(f.frames) > 0 || f.count == 0 && e.Kind == api.EvCall
}

// inner is the innermost frame.
func (f *fold) inner() *frame {
	return &f.frames[len(f.frames)-1]
}

// isOpen tells whether a node is an open block of the innermost frame.
func (f *fold) isOpen(block int) bool {
	list, place := f.inner().open, f.sites[block].deep
	return place < len(list) && list[place].node == block
}

// isReady tells whether a node is an open block of the innermost frame in which all is set that is set ahead of its statements.
func (f *fold) isReady(block int) bool {
	if !f.isOpen(block) {
		return false
	}
	vars, around := f.inner().setIn(f.sites[block].deep), f.sites[block].parent
	switch f.sites[around].kind {
	case api.KFunc:
		return len(vars) >= f.funcs[f.inner().function].Params
	case api.KFor:
		return len(vars) > 0 && vars[0].Var.Node == around
	}
	return true
}

// comeOut comes to the block of the event's node: those behind it are closed.
func (f *fold) comeOut(e api.Event) {
	block := f.sites[e.Node].block
	f.inner().closeFrom(f.sites[block].deep + 1)
}

func (f *fold) mayCall(e api.Event) bool {
	s := f.sites[e.Node]
	if s.kind != api.KFunc || e.Name != f.funcs[s.function].Name || !fits(e.Value, "") {
		return false
	}
	if len(f.frames) == 0 {
		return e.Name == "main"
	}
	return f.inner().node != 0
}

func (f *fold) call(e api.Event) {
	called := frame{function: f.sites[e.Node].function}
	called.openBehind(f.body(called.function))
	f.frames = append(f.frames, called)
}

func (f *fold) mayBegin(e api.Event) bool {
	s := f.sites[e.Node]
	isStatement := api.KVar <= s.kind && s.kind < api.KHook
	return isStatement && s.parent == s.block && f.isReady(s.block) && isBare(e)
}

func (f *fold) begin(e api.Event) {
	f.comeOut(e)
	f.inner().node = e.Node
}

func (f *fold) mayEnter(e api.Event) bool {
	// A body is none of these: it has no block around it, so none that is ready.
	s := f.sites[e.Node]
	return s.kind == api.KBlock && f.isReady(s.block) && isBare(e)
}

func (f *fold) enter(e api.Event) {
	f.comeOut(e)
	f.inner().openBehind(e.Node)
}

func (f *fold) mayExit(e api.Event) bool {
	isBody := f.sites[e.Node].block == 0
	return !isBody && f.isReady(e.Node) && isBare(e)
}

func (f *fold) mayReturn(e api.Event) bool {
	in := f.inner()
	return f.sites[e.Node].kind == api.KReturn && e.Node == in.node &&
		e.Name == "" && fits(e.Value, f.funcs[in.function].Result)
}

func (f *fold) mayLeave(e api.Event) bool {
	in := f.inner()
	left := f.funcs[in.function]
	return e.Node == left.Node && left.Result == "" && f.isReady(f.body(in.function)) && isBare(e)
}

func (f *fold) end(api.Event) {
	last := len(f.frames) - 1
	f.frames = slices.Delete(f.frames, last, last+1)
}

func (f *fold) maySet(e api.Event) bool {
	v, some := f.variable(e.Node)
	if !some || e.Name != v.Name || !fits(e.Value, v.Type) {
		return false
	}
	in, s := f.inner(), f.sites[e.Node]
	switch s.kind {
	case api.KParam:
		return s.function == in.function && in.node == 0 && s.slot == len(in.setIn(0))
	case api.KVar:
		return f.isAt(e.Node) && in.find(s.slot) < 0
	case api.KFor:
		last := len(in.open) - 1
		return f.sites[in.open[last].node].parent == e.Node && len(in.setIn(last)) == 0
	}
	return !s.element && f.isAt(e.Node) && in.find(s.slot) >= 0
}

// isAt tells whether the statement is the one that is being done, and its block is open.
func (f *fold) isAt(n int) bool {
	return n == f.inner().node && f.isOpen(f.sites[n].block)
}

func (f *fold) set(e api.Event) {
	in, s := f.inner(), f.sites[e.Node]
	switch s.kind {
	case api.KAssign, api.KRead:
		in.vars[in.find(s.slot)].Value = e.Value
		f.comeOut(e)
		return
	case api.KVar:
		f.comeOut(e)
	}
	v, _ := f.variable(e.Node)
	in.vars = append(in.vars, api.Shown{Var: v, Value: e.Value})
}

func (f *fold) mayTouch(e api.Event) bool {
	s := f.sites[e.Node]
	if !s.element || !f.isAt(e.Node) {
		return false
	}
	in := f.inner()
	place := in.find(s.slot)
	return place >= 0 && in.vars[place].Var.Name == e.Name && in.vars[place].Value == e.Value
}

// copied is a fold as memory of its own.
func (f *fold) copied() fold {
	twin := *f
	twin.outline, twin.last = copiedOutline(f.outline), copiedEvent(f.last)
	twin.frames = slices.Clone(f.frames)
	for n := range f.frames {
		twin.frames[n] = f.frames[n].copied()
	}
	return twin
}

// isBare tells whether an event has neither a name nor a value.
func isBare(e api.Event) bool {
	return e.Name == "" && fits(e.Value, "")
}

// fits tells whether a value may be that of something of a type; "" is no type.
func fits(v api.Value, typing string) bool {
	return value.Valid(v) && v.Kind == types.Kind(typing)
}
