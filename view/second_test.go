package view

import (
	"slices"
	"testing"

	"retrace/api"
)

// This file says the chapter's words a second time, by other means: each open block has a list of its own, blocks are searched for one by one, and nothing of what a run does is taken for granted.

type secondBlock struct {
	node int
	vars []api.Shown
}

type secondFrame struct {
	function int
	node     int
	open     []secondBlock
}

// second is a view as the chapter words it.
type second struct {
	p      api.Program
	parent []int // by node
	block  []int // by node; -1 none
	frames []secondFrame
	begun  bool // there was a frame
	events []api.Event
}

func newSecond(p api.Program) *second {
	s := &second{p: p}
	s.survey(0, -1, -1)
	return s
}

// survey goes down the tree.
func (s *second) survey(n, parent, block int) {
	s.parent, s.block = append(s.parent, parent), append(s.block, block)
	if s.node(n).Kind == api.KBlock {
		block = n
	}
	for _, kid := range s.kids(n) {
		s.survey(kid, n, block)
	}
}

func (s *second) kids(n int) []int {
	var all []int
	for kid := n + 1; kid < n+s.node(n).Size; kid += s.node(kid).Size {
		all = append(all, kid)
	}
	return all
}

func (s *second) clone() *second {
	twin := *s
	twin.frames, twin.events = nil, slices.Clone(s.events)
	for _, f := range s.frames {
		f.open = slices.Clone(f.open)
		for i := range f.open {
			f.open[i].vars = slices.Clone(f.open[i].vars)
		}
		twin.frames = append(twin.frames, f)
	}
	return &twin
}

func (s *second) node(n int) api.Node { return s.p.Tree.Nodes[n] }

func (s *second) inner() *secondFrame { return &s.frames[len(s.frames)-1] }

func (s *second) isBody(n int) bool {
	return s.node(n).Kind == api.KBlock && s.node(s.parent[n]).Kind == api.KFunc
}

// place finds a block among the open ones, -1 if it is not open.
func (f *secondFrame) place(block int) int {
	return slices.IndexFunc(f.open, func(b secondBlock) bool { return b.node == block })
}

func (f *secondFrame) comeTo(block int) {
	f.open = f.open[:f.place(block)+1]
}

// variable finds one that has been set in an open block.
func (f *secondFrame) variable(node int) *api.Shown {
	for _, block := range f.open {
		for i := range block.vars {
			if block.vars[i].Var.Node == node {
				return &block.vars[i]
			}
		}
	}
	return nil
}

// ready: an open block in which what belongs to it is set.
func (s *second) ready(f *secondFrame, block int) bool {
	place := f.place(block)
	if place < 0 {
		return false
	}
	isSet := func(node int) bool {
		return slices.ContainsFunc(f.open[place].vars, func(v api.Shown) bool { return v.Var.Node == node })
	}
	around := s.parent[block]
	switch s.node(around).Kind {
	case api.KFunc:
		for _, kid := range s.kids(around) {
			if s.node(kid).Kind == api.KParam && !isSet(kid) {
				return false
			}
		}
	case api.KFor:
		return isSet(around)
	}
	return true
}

// meantVar is the variable that a node declares, or that the KName means.
func (s *second) meantVar(n int) api.Var {
	return s.p.Scoped.Funcs[s.p.Scoped.Owners[n]].Vars[s.p.Scoped.Slots[n]]
}

// fitsNone: of kind ValNone, and it may be.
func fitsNone(v api.Value) bool { return v == api.Value{} }

// fitsType: it may be, and is of the type's kind.
func fitsType(v api.Value, typing string) bool {
	switch typing {
	case "int":
		return v == api.Value{Kind: api.ValInt, Int: v.Int}
	case "bool":
		return v == api.Value{Kind: api.ValBool} || v == api.Value{Kind: api.ValBool, Int: 1}
	case "text":
		return v == api.Value{Kind: api.ValText, Text: v.Text} && len(v.Text) <= api.MaxText
	}
	return v == api.Value{Kind: api.ValRef, Int: v.Int} && v.Int >= 0
}

// take takes an event, if it can follow.
func (s *second) take(e api.Event) bool {
	if s.begun && len(s.frames) == 0 {
		return false
	}
	if e.Node < 0 || e.Node >= len(s.p.Tree.Nodes) || len(s.frames) == 0 && e.Kind != api.EvCall {
		return false
	}
	if !s.follow(e) {
		return false
	}
	s.events = append(s.events, e)
	return true
}

func (s *second) follow(e api.Event) bool {
	switch e.Kind {
	case api.EvCall:
		return s.followCall(e)
	case api.EvSet:
		return s.followSet(e)
	case api.EvTouch:
		return s.followTouch(e)
	case api.EvStmt, api.EvEnter, api.EvExit:
		return e.Name == "" && fitsNone(e.Value) && s.followBare(e)
	case api.EvReturn, api.EvLeave:
		return s.followEnd(e)
	}
	return false
}

func (s *second) followCall(e api.Event) bool {
	if s.node(e.Node).Kind != api.KFunc || e.Name != s.node(e.Node).Name || !fitsNone(e.Value) {
		return false
	}
	if len(s.frames) == 0 && s.node(e.Node).Name != "main" {
		return false
	}
	if len(s.frames) > 0 && s.inner().node == 0 {
		return false
	}
	body := 0
	for _, kid := range s.kids(e.Node) {
		body = kid
	}
	s.begun = true
	s.frames = append(s.frames, secondFrame{function: s.p.Scoped.Owners[e.Node], open: []secondBlock{{node: body}}})
	return true
}

// declare sets a variable in the open block at a place.
func (s *second) declare(f *secondFrame, place int, e api.Event) bool {
	f.open[place].vars = append(f.open[place].vars, api.Shown{Var: s.meantVar(e.Node), Value: e.Value})
	return true
}

func (s *second) followSet(e api.Event) bool {
	f := s.inner()
	switch node := s.node(e.Node); node.Kind {
	case api.KParam:
		function := s.p.Scoped.Funcs[f.function]
		count := len(f.open[0].vars)
		if count >= function.Params || function.Vars[count].Node != e.Node || f.node != 0 || e.Name != node.Name || !fitsType(e.Value, node.Type) {
			return false
		}
		return s.declare(f, 0, e)
	case api.KVar:
		block := s.block[e.Node]
		if f.node != e.Node || f.place(block) < 0 || f.variable(e.Node) != nil || e.Name != node.Name || !fitsType(e.Value, node.Type) {
			return false
		}
		f.comeTo(block)
		return s.declare(f, len(f.open)-1, e)
	case api.KFor:
		own := 0
		for _, kid := range s.kids(e.Node) {
			own = kid
		}
		last := f.open[len(f.open)-1]
		if last.node != own || len(last.vars) > 0 || e.Name != node.Name || !fitsType(e.Value, "int") {
			return false
		}
		return s.declare(f, len(f.open)-1, e)
	case api.KAssign, api.KRead:
		place := e.Node + 1
		if s.node(place).Kind != api.KName || f.node != e.Node || f.place(s.block[e.Node]) < 0 {
			return false
		}
		meant := s.meantVar(place)
		v := f.variable(meant.Node)
		if v == nil || e.Name != meant.Name || !fitsType(e.Value, meant.Type) {
			return false
		}
		v.Value = e.Value
		f.comeTo(s.block[e.Node])
		return true
	}
	return false
}

func (s *second) followTouch(e api.Event) bool {
	kind := s.node(e.Node).Kind
	if kind != api.KAssign && kind != api.KRead {
		return false
	}
	root := s.kids(e.Node)[0]
	if s.node(root).Kind != api.KIndex {
		return false
	}
	for s.node(root).Kind != api.KName {
		root = s.kids(root)[0]
	}
	f := s.inner()
	v := f.variable(s.meantVar(root).Node)
	if f.node != e.Node || f.place(s.block[e.Node]) < 0 || v == nil || v.Value != e.Value || e.Name != s.node(root).Name {
		return false
	}
	f.comeTo(s.block[e.Node])
	return true
}

func (s *second) followBare(e api.Event) bool {
	f, kind, block := s.inner(), s.node(e.Node).Kind, s.block[e.Node]
	switch e.Kind {
	case api.EvStmt:
		statements := []api.Kind{api.KVar, api.KAssign, api.KIf, api.KWhile, api.KFor, api.KBreak, api.KContinue, api.KReturn, api.KPrint, api.KRead, api.KDo}
		if !slices.Contains(statements, kind) || s.node(s.parent[e.Node]).Kind != api.KBlock || !s.ready(f, block) {
			return false
		}
		f.comeTo(block)
		f.node = e.Node
	case api.EvEnter:
		if kind != api.KBlock || s.isBody(e.Node) || !s.ready(f, block) {
			return false
		}
		f.comeTo(block)
		f.open = append(slices.Clip(f.open), secondBlock{node: e.Node})
	case api.EvExit:
		if kind != api.KBlock || s.isBody(e.Node) || !s.ready(f, e.Node) {
			return false
		}
		f.comeTo(block)
	}
	return true
}

func (s *second) followEnd(e api.Event) bool {
	f := s.inner()
	result := s.p.Scoped.Funcs[f.function].Result
	switch {
	case e.Name != "":
		return false
	case e.Kind == api.EvLeave:
		if e.Node != s.p.Scoped.Funcs[f.function].Node || result != "" || !fitsNone(e.Value) || !s.ready(f, f.open[0].node) {
			return false
		}
	case s.node(e.Node).Kind != api.KReturn || e.Node != f.node:
		return false
	case result == "" && !fitsNone(e.Value) || result != "" && !fitsType(e.Value, result):
		return false
	}
	s.frames = s.frames[:len(s.frames)-1]
	return true
}

// shown is the frames as Frames should tell them.
func (s *second) shown() []api.Frame {
	var told []api.Frame
	for _, f := range slices.Backward(s.frames) {
		frame := api.Frame{Func: f.function, Node: f.node}
		for i, block := range f.open {
			for _, v := range block.vars {
				hidden := slices.ContainsFunc(f.open[i+1:], func(inner secondBlock) bool {
					return slices.ContainsFunc(inner.vars, func(w api.Shown) bool { return w.Var.Name == v.Var.Name })
				})
				if !hidden {
					frame.Vars = append(frame.Vars, v)
				}
			}
		}
		told = append(told, frame)
	}
	return told
}

func sameFrames(a, b []api.Frame) bool {
	return slices.EqualFunc(a, b, func(a, b api.Frame) bool {
		return a.Func == b.Func && a.Node == b.Node && slices.Equal(a.Vars, b.Vars)
	})
}

// pair is a view and what the chapter says of it.
type pair struct {
	v *View
	s *second
}

func newPair(t testing.TB, p api.Program) pair {
	t.Helper()
	v, errno := New(p)
	if errno != api.OK || v == nil {
		t.Fatalf("New: %d", errno)
	}
	return pair{v, newSecond(p)}
}

func (p pair) clone() pair { return pair{p.v.Clone(), p.s.clone()} }

// agrees asks all that can be asked of a view.
func (p pair) agrees(t testing.TB) {
	t.Helper()
	if got, want := p.v.Frames(), p.s.shown(); !sameFrames(got, want) {
		t.Fatalf("behind %v: Frames are %v, want %v", p.s.events, got, want)
	}
	var last api.Event
	if len(p.s.events) > 0 {
		last = p.s.events[len(p.s.events)-1]
	}
	if got, some := p.v.Last(); got != last || some != (len(p.s.events) > 0) {
		t.Fatalf("behind %v: Last is %v, %v", p.s.events, got, some)
	}
	if p.v.Count() != len(p.s.events) || p.v.Depth() != len(p.s.frames) {
		t.Fatalf("behind %v: Count is %d, Depth is %d, want %d", p.s.events, p.v.Count(), p.v.Depth(), len(p.s.frames))
	}
}

// take has both take an event, and tells whether they have.
func (p pair) take(t testing.TB, e api.Event) bool {
	t.Helper()
	want := p.s.take(e)
	if errno := p.v.Take(e); errno != api.OK && errno != api.ErrFold || (errno == api.OK) != want {
		t.Fatalf("behind %v: Take(%v) is %d, should it be taken: %v", p.s.events, e, errno, want)
	}
	return want
}
