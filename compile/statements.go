package compile

import (
	"slices"

	"retrace/api"
)

func (w *writer) statement(n int) row {
	node, kids := w.nodes[n], w.kids(n)
	parts := w.parts(kids)
	switch node.Kind {
	case api.KBlock:
		return slices.Concat(row{w.put(api.InNop, 0, 0)}, parts)
	case api.KVar:
		return append(parts, w.store(n))
	case api.KAssign:
		return w.assign(kids[0], parts[1])
	case api.KRead:
		return w.assign(kids[0], w.put(api.InRead, 0, 1))
	case api.KIf:
		return w.choice(parts)
	case api.KWhile:
		return w.while(n, parts[0], parts[1])
	case api.KFor:
		return w.count(n, parts[0], parts[1], parts[2])
	case api.KBreak:
		return row{w.jump(api.InJump, w.loops[w.scoped.Targets[n]].end, 0)}
	case api.KContinue:
		return row{w.jump(api.InJump, w.loops[w.scoped.Targets[n]].again, 0)}
	case api.KReturn:
		return w.comeBack(int(node.Int), parts)
	case api.KPrint:
		return append(parts, w.put(api.InPrint, len(parts), -len(parts)))
	case api.KDo:
		return w.do(kids[0], parts[0])
	}
	return row{w.hook(n)}
}

// store is the step that takes a value off the stack into the variable that a node names or declares.
func (w *writer) store(of int) step {
	return w.put(api.InStore, w.scoped.Slots[of], -1)
}

// assign sets a place, which is not read, to what a step puts on the stack.
func (w *writer) assign(place int, value step) row {
	if w.nodes[place].Kind == api.KName {
		return row{value, w.store(place)}
	}
	return append(w.parts(w.kids(place)), value, w.put(api.InPut, 0, -3))
}

func (w *writer) choice(parts row) row {
	no, end := w.mark(), w.mark()
	begin := row{parts[0], w.jump(api.InFalse, no, -1), parts[1]}
	if len(parts) == 2 {
		return append(begin, w.here(no))
	}
	return append(begin, w.jump(api.InJump, end, 0), w.here(no), parts[2], w.here(end))
}

func (w *writer) while(n int, condition, block step) row {
	l := w.loop(n)
	return row{
		w.here(l.again), condition, w.jump(api.InFalse, l.end, -1),
		block, w.jump(api.InJump, l.again, 0),
		w.here(l.end),
	}
}

func (w *writer) count(n int, from, to, block step) row {
	l, begin := w.loop(n), w.mark()
	counter, last := w.hidden, w.hidden+1
	w.hidden += 2
	return row{
		from, w.put(api.InStore, counter, -1), to, w.put(api.InStore, last, -1),
		w.put(api.InLoad, counter, 1), w.put(api.InLoad, last, 1), w.put(api.InBin, int(api.OpLe), -1), w.jump(api.InFalse, l.end, -1),
		w.here(begin), w.put(api.InLoad, counter, 1), w.store(n),
		block,
		// The greatest int ends the loop too: nothing is added to the last number.
		w.here(l.again), w.put(api.InLoad, counter, 1), w.put(api.InLoad, last, 1), w.put(api.InBin, int(api.OpLt), -1), w.jump(api.InFalse, l.end, -1),
		w.put(api.InLoad, counter, 1), w.put(api.InInt, 1, 1), w.put(api.InBin, int(api.OpAdd), -1), w.put(api.InStore, counter, -1), w.jump(api.InJump, begin, 0),
		w.here(l.end),
	}
}

// loop makes a loop's marks, for what stands in it.
func (w *writer) loop(n int) loop {
	l := loop{end: w.mark(), again: w.mark()}
	w.loops[n] = l
	return l
}

func (w *writer) comeBack(hook int, value row) row {
	r, tell, end := value, w.put(api.InTell, hook, 0), w.put(api.InRet, 0, -1)
	if len(value) == 0 {
		tell, end = w.put(api.InEmit, hook, 0), w.put(api.InDone, 0, 0)
	}
	if hook != 0 {
		r = append(r, tell)
	}
	return append(r, end)
}

func (w *writer) do(call int, part step) row {
	if w.scoped.Funcs[w.scoped.Calls[call]].Result == "" {
		return row{part}
	}
	return row{part, w.put(api.InPop, 0, -1)}
}

func (w *writer) hook(n int) step {
	node := w.nodes[n]
	if node.Name == "" {
		return w.put(api.InEmit, int(node.Int), 0)
	}
	return w.write(api.Instr{Op: api.InShow, A: node.Int, B: int64(w.scoped.Slots[n])}, 0)
}
