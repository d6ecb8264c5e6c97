package vm

import (
	"retrace/api"
	"retrace/value"
)

// wants is how many values an instruction wants on the stack, by its number. A call and a print want as many as their operand says, and ask for them themselves.
var wants = [...]int{
	api.InNop:   0,
	api.InInt:   0,
	api.InBool:  0,
	api.InText:  0,
	api.InLoad:  0,
	api.InStore: 1,
	api.InPop:   1,
	api.InUn:    1,
	api.InBin:   2,
	api.InJump:  0,
	api.InFalse: 1,
	api.InCall:  0,
	api.InRet:   1,
	api.InDone:  0,
	api.InNew:   1,
	api.InGet:   2,
	api.InPut:   3,
	api.InLen:   1,
	api.InStr:   1,
	api.InPrint: 0,
	api.InRead:  0,
	api.InEmit:  0,
	api.InShow:  0,
	api.InTell:  1,
}

// next does the instruction that is next: what it yields, or why it cannot be done. Where it traps, the innermost frame is to be laid back.
func (m *Machine) next() (api.Yield, api.Trap) {
	f := m.top()
	if !m.inPiece(f.place) {
		return api.Yield{}, api.TrapStuck
	}
	in := m.code.Instrs[f.place]
	if len(f.stack) < wants[in.Op] {
		return api.Yield{}, api.TrapStuck
	}
	f.place++
	return m.do(in)
}

// do does an instruction that has on the stack what the table says.
func (m *Machine) do(in api.Instr) (yield api.Yield, trap api.Trap) {
	switch in.Op {
	case api.InInt:
		trap = (*Machine).doInt(m, in.A)
	case api.InBool:
		trap = (*Machine).doBool(m, in.A)
	case api.InText:
		trap = (*Machine).doText(m, in.A)
	case api.InLoad:
		trap = (*Machine).doLoad(m, in.A)
	case api.InStore:
		trap = (*Machine).doStore(m, in.A)
	case api.InPop:
		trap = (*Machine).doPop(m)
	case api.InUn:
		trap = (*Machine).doUn(m, api.Op(in.A))
	case api.InBin:
		trap = (*Machine).doBin(m, api.Op(in.A))
	case api.InJump:
		trap = (*Machine).doJump(m, in.A)
	case api.InFalse:
		trap = (*Machine).doFalse(m, in.A)
	case api.InCall:
		trap = (*Machine).doCall(m, in.A)
	case api.InRet:
		trap = (*Machine).doRet(m)
	case api.InDone:
		trap = (*Machine).doDone(m)
	case api.InNew:
		trap = (*Machine).doNew(m, api.Sort(in.A))
	case api.InGet:
		trap = (*Machine).doGet(m)
	case api.InPut:
		trap = (*Machine).doPut(m)
	case api.InLen:
		trap = (*Machine).doLen(m)
	case api.InStr:
		trap = (*Machine).doStr(m)
	case api.InPrint:
		trap = (*Machine).doPrint(m, in.A)
	case api.InRead:
		trap = (*Machine).doRead(m)
	case api.InEmit:
		yield = (*Machine).doEmit(m, in.A)
	case api.InShow:
		yield, trap = (*Machine).doShow(m, in.A, in.B)
	case api.InTell:
		yield = (*Machine).doTell(m, in.A)
	}
	return yield, trap
}

func (m *Machine) doInt(n int64) api.Trap {
	return m.top().push(number(n))
}

func (m *Machine) doBool(n int64) api.Trap {
	return m.top().push(api.Value{Kind: api.ValBool, Int: n})
}

func (m *Machine) doText(n int64) api.Trap {
	if n >= int64(len(m.code.Texts)) {
		return api.TrapStuck
	}
	return m.top().push(api.Value{Kind: api.ValText, Text: m.code.Texts[n]})
}

func (m *Machine) doLoad(slot int64) api.Trap {
	f := m.top()
	if slot >= int64(len(f.slots)) {
		return api.TrapStuck
	}
	return f.push(f.slots[slot])
}

func (m *Machine) doStore(slot int64) api.Trap {
	f := m.top()
	v := f.pop()
	if slot >= int64(len(f.slots)) || !m.fits(v, m.entry().Sorts[slot]) {
		return api.TrapStuck
	}
	f.slots[slot] = v
	return api.NoTrap
}

func (m *Machine) doPop() api.Trap {
	m.top().pop()
	return api.NoTrap
}

func (m *Machine) doUn(op api.Op) api.Trap {
	f := m.top()
	return f.pushOr(value.Unary(op, f.pop()))
}

func (m *Machine) doBin(op api.Op) api.Trap {
	f := m.top()
	second, first := f.pop(), f.pop()
	return f.pushOr(value.Binary(op, first, second))
}

func (m *Machine) doJump(to int64) api.Trap {
	if !m.inPiece(int(to)) {
		return api.TrapStuck
	}
	m.top().place = int(to)
	return api.NoTrap
}

func (m *Machine) doFalse(to int64) api.Trap {
	condition := m.top().pop()
	switch {
	case condition.Kind != api.ValBool:
		return api.TrapStuck
	case condition.Int == 0:
		return m.doJump(to)
	}
	return api.NoTrap
}

func (m *Machine) doCall(function int64) api.Trap {
	if function >= int64(len(m.code.Entrys)) {
		return api.TrapStuck
	}
	callee := m.code.Entrys[function]
	arguments, there := m.top().popAll(callee.Params)
	switch {
	case !there, !m.fitAll(arguments, callee.Sorts):
		return api.TrapStuck
	case len(m.frames) == m.limits.Depth:
		return api.TrapDepth
	}
	m.begin(int(function), arguments)
	return api.NoTrap
}

func (m *Machine) doRet() api.Trap {
	result, v := m.entry().Result, m.top().pop()
	if result == 0 || !m.fits(v, result) || len(m.frames) == 1 {
		return api.TrapStuck
	}
	below := &m.frames[len(m.frames)-2]
	if trap := below.push(v); trap != api.NoTrap {
		return trap
	}
	m.leave()
	return api.NoTrap
}

func (m *Machine) doDone() api.Trap {
	if m.entry().Result != 0 {
		return api.TrapStuck
	}
	m.leave()
	if len(m.frames) == 0 {
		m.outcome.Phase = api.Ended
	}
	return api.NoTrap
}

func (m *Machine) doNew(elements api.Sort) api.Trap {
	f := m.top()
	length := f.pop()
	if length.Kind != api.ValInt {
		return api.TrapStuck
	}
	return f.pushOr(m.heap.Make(kindOf(elements), length.Int))
}

func (m *Machine) doGet() api.Trap {
	f := m.top()
	index, of := f.pop(), f.pop()
	switch {
	case of.Kind == api.ValText:
		return f.pushOr(value.At(of, index))
	case of.Kind == api.ValRef && index.Kind == api.ValInt:
		return f.pushOr(m.heap.Get(of, index.Int))
	}
	return api.TrapStuck
}

func (m *Machine) doPut() api.Trap {
	f := m.top()
	v, index, array := f.pop(), f.pop(), f.pop()
	if index.Kind != api.ValInt {
		return api.TrapStuck
	}
	return m.heap.Put(array, index.Int, v)
}

func (m *Machine) doLen() api.Trap {
	f := m.top()
	of := f.pop()
	if of.Kind == api.ValText {
		return f.push(number(int64(len(of.Text))))
	}
	length, trap := m.heap.Len(of) // stuck, if that is no reference
	return f.pushOr(number(length), trap)
}

func (m *Machine) doStr() api.Trap {
	f := m.top()
	v := f.pop()
	if !isPlain(v) {
		return api.TrapStuck
	}
	return f.push(api.Value{Kind: api.ValText, Text: value.Str(v)})
}

func (m *Machine) doPrint(count int64) api.Trap {
	values, there := m.top().popAll(int(count))
	if !there {
		return api.TrapStuck
	}
	for _, v := range values {
		if !isPlain(v) {
			return api.TrapStuck
		}
	}
	for n, v := range values {
		if n > 0 {
			m.output = append(m.output, ' ')
		}
		m.output = append(m.output, value.Str(v)...)
	}
	m.output = append(m.output, '\n')
	return api.NoTrap
}

func (m *Machine) doRead() api.Trap {
	if m.read == len(m.input) {
		return api.TrapInput
	}
	if trap := m.top().push(number(m.input[m.read])); trap != api.NoTrap {
		return trap
	}
	m.read++
	return api.NoTrap
}

func (m *Machine) doEmit(hook int64) api.Yield {
	return api.Yield{Hook: int(hook)}
}

func (m *Machine) doShow(hook, slot int64) (api.Yield, api.Trap) {
	slots := m.top().slots
	if slot >= int64(len(slots)) {
		return api.Yield{}, api.TrapStuck
	}
	return api.Yield{Hook: int(hook), Has: true, Value: copied(slots[slot])}, api.NoTrap
}

// doTell leaves the value where it is.
func (m *Machine) doTell(hook int64) api.Yield {
	stack := m.top().stack
	return api.Yield{Hook: int(hook), Has: true, Value: copied(stack[len(stack)-1])}
}
