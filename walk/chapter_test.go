package walk

import (
	"strings"

	"retrace/api"
	"retrace/value"
)

// This file says the chapter's words a second time, by other means: the tree is gone down by calls, variables are bound to names, a loop is left by what its statements answer, and a trap is a panic.

// binding is a variable that is seen, with those around it.
type binding struct {
	name  string
	value api.Value
	outer *binding
}

func (b *binding) find(name string) *binding {
	for b.name != name {
		b = b.outer
	}
	return b
}

// way is how a statement was left: on its own (no kind), or by a jump.
type way struct {
	kind  api.Kind
	label string
	value api.Value
}

// moment is what a run has done, behind an event.
type moment struct {
	outcome api.Outcome
	output  string
	input   int
	frames  int
	arrays  [][]api.Value
}

type meaning struct {
	nodes  []api.Node
	types  []string
	input  []int64
	limits api.Limits
	most   int // so many events are wanted
	cells  int
	now    moment
	events []api.Event
	past   []moment // by event; the first is the beginning, and if the run ends the last is its end
}

// enough is thrown when as many events have come as are wanted.
type enough struct{}

// meant tells the events that a run has, at most so many, and its moments.
func meant(p api.Program, input []int64, l api.Limits, most int) *meaning {
	w := &meaning{nodes: p.Tree.Nodes, types: p.Types, input: input, limits: l, most: most}
	w.now.arrays = [][]api.Value{nil}
	w.note()
	w.run()
	return w
}

func (w *meaning) run() {
	defer func() {
		switch thrown := recover().(type) {
		case enough:
			return
		case api.Trap:
			w.now.outcome = api.Outcome{Phase: api.Trapped, Trap: thrown}
		case nil:
			w.now.outcome = api.Outcome{Phase: api.Ended}
		default:
			panic(thrown)
		}
		w.note()
	}()
	if w.most <= 0 {
		panic(enough{})
	}
	w.call("main", nil)
}

func (w *meaning) note() {
	now := w.now
	now.arrays = nil
	for _, list := range w.now.arrays {
		now.arrays = append(now.arrays, append([]api.Value(nil), list...))
	}
	w.past = append(w.past, now)
}

func (w *meaning) tell(kind api.EventKind, n int, name string, v api.Value) {
	w.events = append(w.events, api.Event{Kind: kind, Node: n, Name: name, Value: v})
	w.note()
	if len(w.events) == w.most {
		panic(enough{})
	}
}

func (w *meaning) kids(n int) []int {
	var kids []int
	for kid := n + 1; kid < n+w.nodes[n].Size; kid += w.nodes[kid].Size {
		kids = append(kids, kid)
	}
	return kids
}

func (w *meaning) call(name string, arguments []api.Value) api.Value {
	if w.now.frames >= w.limits.Depth {
		panic(api.TrapDepth)
	}
	for _, f := range w.kids(0) {
		if w.nodes[f].Name != name {
			continue
		}
		w.now.frames++
		w.tell(api.EvCall, f, name, api.Value{})
		kids := w.kids(f)
		var seen *binding
		for i, param := range kids[:len(kids)-1] {
			seen = &binding{w.nodes[param].Name, arguments[i], seen}
			w.tell(api.EvSet, param, seen.name, seen.value)
		}
		left := w.list(kids[len(kids)-1], seen)
		if left.kind == 0 {
			w.now.frames--
			w.tell(api.EvLeave, f, "", api.Value{})
		}
		return left.value
	}
	panic("no function " + name)
}

// list does the statements of a block.
func (w *meaning) list(block int, seen *binding) way {
	for _, kid := range w.kids(block) {
		left := w.statement(kid, &seen)
		if left.kind != 0 {
			return left
		}
	}
	return way{}
}

func (w *meaning) block(n int, seen *binding) way {
	w.tell(api.EvEnter, n, "", api.Value{})
	left := w.list(n, seen)
	if left.kind == 0 {
		w.tell(api.EvExit, n, "", api.Value{})
	}
	return left
}

func (w *meaning) statement(n int, seen **binding) way {
	node := w.nodes[n]
	switch node.Kind {
	case api.KHook:
		return way{}
	case api.KBlock:
		return w.block(n, *seen)
	}
	w.tell(api.EvStmt, n, "", api.Value{})
	kids := w.kids(n)
	switch node.Kind {
	case api.KVar:
		v := w.expression(kids[0], *seen)
		*seen = &binding{node.Name, v, *seen}
		w.tell(api.EvSet, n, node.Name, v)
	case api.KAssign:
		w.store(n, kids[0], *seen, func() api.Value { return w.expression(kids[1], *seen) })
	case api.KRead:
		w.store(n, kids[0], *seen, w.number)
	case api.KIf:
		return w.choice(n, *seen)
	case api.KWhile:
		for w.expression(kids[0], *seen).Int != 0 {
			if left, goesOn := turned(w.block(kids[1], *seen), node.Label); !goesOn {
				return left
			}
		}
	case api.KFor:
		return w.turns(n, *seen)
	case api.KBreak, api.KContinue:
		return way{kind: node.Kind, label: node.Label}
	case api.KReturn:
		left := way{kind: api.KReturn}
		if len(kids) == 1 {
			left.value = w.expression(kids[0], *seen)
		}
		w.now.frames--
		w.tell(api.EvReturn, n, "", left.value)
		return left
	case api.KPrint:
		var texts []string
		for _, kid := range kids {
			texts = append(texts, value.Str(w.expression(kid, *seen)))
		}
		w.now.output += strings.Join(texts, " ") + "\n"
	case api.KDo:
		w.expression(kids[0], *seen)
	}
	return way{}
}

func (w *meaning) choice(n int, seen *binding) way {
	kids := w.kids(n)
	if w.expression(kids[0], seen).Int != 0 {
		return w.block(kids[1], seen)
	}
	if len(kids) < 3 {
		return way{}
	}
	if w.nodes[kids[2]].Kind == api.KIf {
		return w.choice(kids[2], seen)
	}
	return w.block(kids[2], seen)
}

// turned tells what comes behind a turn of a loop with that label: the next one, or how the loop was left.
func turned(left way, label string) (way, bool) {
	mine := left.label == "" || left.label == label
	switch {
	case left.kind == 0, left.kind == api.KContinue && mine:
		return way{}, true
	case left.kind == api.KBreak && mine:
		return way{}, false
	}
	return left, false
}

func (w *meaning) turns(n int, seen *binding) way {
	kids := w.kids(n)
	from, to := w.expression(kids[0], seen).Int, w.expression(kids[1], seen).Int
	if from > to {
		return way{}
	}
	for count := uint64(0); count <= uint64(to)-uint64(from); count++ {
		v := api.Value{Kind: api.ValInt, Int: from + int64(count)}
		w.tell(api.EvEnter, kids[2], "", api.Value{})
		w.tell(api.EvSet, n, w.nodes[n].Name, v)
		left := w.list(kids[2], &binding{w.nodes[n].Name, v, seen})
		if left.kind == 0 {
			w.tell(api.EvExit, kids[2], "", api.Value{})
		}
		if left, goesOn := turned(left, w.nodes[n].Label); !goesOn {
			return left
		}
	}
	return way{}
}

func (w *meaning) number() api.Value {
	if w.now.input >= len(w.input) {
		panic(api.TrapInput)
	}
	w.now.input++
	return api.Value{Kind: api.ValInt, Int: w.input[w.now.input-1]}
}

func (w *meaning) store(n, place int, seen *binding, what func() api.Value) {
	if w.nodes[place].Kind == api.KName {
		v := what()
		b := seen.find(w.nodes[place].Name)
		b.value = v
		w.tell(api.EvSet, n, b.name, v)
		return
	}
	kids := w.kids(place)
	list := w.now.arrays[w.expression(kids[0], seen).Int]
	index := w.expression(kids[1], seen).Int
	v := what()
	if index < 0 || index >= int64(len(list)) {
		panic(api.TrapIndex)
	}
	list[index] = v
	root := place
	for w.nodes[root].Kind == api.KIndex {
		root = w.kids(root)[0]
	}
	b := seen.find(w.nodes[root].Name)
	w.tell(api.EvTouch, n, b.name, b.value)
}

func sure(v api.Value, trap api.Trap) api.Value {
	if trap != api.NoTrap {
		panic(trap)
	}
	return v
}

func (w *meaning) expression(n int, seen *binding) api.Value {
	node, kids := w.nodes[n], w.kids(n)
	switch node.Kind {
	case api.KInt:
		return api.Value{Kind: api.ValInt, Int: node.Int}
	case api.KBool:
		return api.Value{Kind: api.ValBool, Int: node.Int}
	case api.KText:
		return api.Value{Kind: api.ValText, Text: node.Text}
	case api.KName:
		return seen.find(node.Name).value
	}
	if node.Op == api.OpAnd || node.Op == api.OpOr {
		left := w.expression(kids[0], seen)
		if (left.Int == 1) == (node.Op == api.OpOr) {
			return left
		}
		return w.expression(kids[1], seen)
	}
	var of []api.Value
	for _, kid := range kids {
		of = append(of, w.expression(kid, seen))
	}
	switch node.Kind {
	case api.KUnary:
		return sure(value.Unary(node.Op, of[0]))
	case api.KBinary:
		return sure(value.Binary(node.Op, of[0], of[1]))
	case api.KCall:
		return w.call(node.Name, of)
	case api.KNew:
		return w.made(node.Type, of[0].Int)
	case api.KStr:
		return api.Value{Kind: api.ValText, Text: value.Str(of[0])}
	case api.KLen:
		if w.types[kids[0]] == "text" {
			return api.Value{Kind: api.ValInt, Int: int64(len(of[0].Text))}
		}
		return api.Value{Kind: api.ValInt, Int: int64(len(w.now.arrays[of[0].Int]))}
	}
	if w.types[kids[0]] == "text" {
		return sure(value.At(of[0], of[1]))
	}
	list := w.now.arrays[of[0].Int]
	if of[1].Int < 0 || of[1].Int >= int64(len(list)) {
		panic(api.TrapIndex)
	}
	return list[of[1].Int]
}

func (w *meaning) made(elements string, length int64) api.Value {
	switch {
	case length < 0:
		panic(api.TrapIndex)
	case length > api.MaxCells || w.cells+int(length)+1 > w.limits.Cells:
		panic(api.TrapHeap)
	}
	w.cells += int(length) + 1
	list := make([]api.Value, length)
	for i := range list {
		list[i].Kind = kindOf(elements)
	}
	w.now.arrays = append(w.now.arrays, list)
	return api.Value{Kind: api.ValRef, Int: int64(len(w.now.arrays) - 1)}
}

func kindOf(typing string) api.ValueKind {
	switch typing {
	case "":
		return api.ValNone
	case "int":
		return api.ValInt
	case "bool":
		return api.ValBool
	case "text":
		return api.ValText
	}
	return api.ValRef
}
