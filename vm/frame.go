package vm

import (
	"retrace/api"
	"retrace/value"
)

// frame is a call that has begun and not ended.
type frame struct {
	function int
	place    int // the number of the instruction that is next
	slots    []api.Value
	stack    []api.Value // the top last
}

// top is the innermost frame, which a machine that is running has.
func (m *Machine) top() *frame {
	return &m.frames[len(m.frames)-1]
}

// entry is the function of the innermost frame.
func (m *Machine) entry() api.Entry {
	return m.code.Entrys[m.top().function]
}

// begin begins a function; its first slots are the arguments.
func (m *Machine) begin(function int, arguments []api.Value) {
	entry := m.code.Entrys[function]
	slots := make([]api.Value, len(entry.Sorts))
	for n, sort := range entry.Sorts {
		slots[n] = value.Zero(kindOf(sort))
	}
	copy(slots, arguments)
	m.frames = append(m.frames, frame{function: function, place: entry.Start, slots: slots})
}

// leave ends the innermost call.
func (m *Machine) leave() {
	*m.top() = frame{} // the list keeps its room, not what lay there
	m.frames = m.frames[:len(m.frames)-1]
}

// pieceEnd tells the number behind the last instruction of a function.
func (m *Machine) pieceEnd(function int) int {
	if function+1 < len(m.code.Entrys) {
		return m.code.Entrys[function+1].Start
	}
	return len(m.code.Instrs)
}

// inPiece tells whether a number is that of an instruction of the innermost frame's function.
func (m *Machine) inPiece(place int) bool {
	return m.entry().Start <= place && place < m.pieceEnd(m.top().function)
}

// push lays a value on a frame's stack, or is stuck.
func (f *frame) push(v api.Value) api.Trap {
	if len(f.stack) == api.MaxStack {
		return api.TrapStuck
	}
	f.stack = append(f.stack, v)
	return api.NoTrap
}

// pushOr lays a value on the stack, or traps if there is a trap in its place.
func (f *frame) pushOr(v api.Value, trap api.Trap) api.Trap {
	if trap != api.NoTrap {
		return trap
	}
	return f.push(v)
}

// pop takes the top off a stack that has one.
func (f *frame) pop() api.Value {
	last := len(f.stack) - 1
	v := f.stack[last]
	f.stack = f.stack[:last]
	return v
}

// popAll takes so many values off, the lowest first, and tells whether there are so many.
func (f *frame) popAll(count int) ([]api.Value, bool) {
	left := len(f.stack) - count
	if left < 0 {
		return nil, false
	}
	taken := f.stack[left:]
	f.stack = f.stack[:left]
	return taken, true
}

// kindOf is the kind of the values of a sort.
func kindOf(sort api.Sort) api.ValueKind {
	return min(api.ValueKind(sort), api.ValRef)
}

// fits tells whether a value can be where that sort is wanted.
func (m *Machine) fits(v api.Value, sort api.Sort) bool {
	return v.Kind == kindOf(sort) && m.mayHave(v)
}

// fitAll tells of values one by one whether they fit the sorts in whose places they stand.
func (m *Machine) fitAll(values []api.Value, sorts []api.Sort) bool {
	for n, v := range values {
		if !m.fits(v, sorts[n]) {
			return false
		}
	}
	return true
}

// mayHave tells whether a value may be on a stack of this machine.
func (m *Machine) mayHave(v api.Value) bool {
	if v.Kind == api.ValRef {
		_, trap := m.heap.Len(v)
		return trap == api.NoTrap
	}
	return v.Kind != api.ValNone && value.Valid(v)
}

// isPlain tells whether a value can be printed.
func isPlain(v api.Value) bool {
	return v.Kind == api.ValInt || v.Kind == api.ValBool || v.Kind == api.ValText
}

func number(n int64) api.Value {
	return api.Value{Kind: api.ValInt, Int: n}
}
