package walk

import (
	"strings"

	"retrace/api"
	"retrace/value"
)

// step is a part of what is to be done; it may lay others on the list. What tells an event is the last thing that a step does, as the run may be stopped behind it.
type step func()

// frame is a call that has begun and not ended.
type frame struct {
	slots []api.Value
	below int         // how many steps were on the list when it began: they are its caller's
	loops map[int]int // by the loop's node, how many steps are on the list below the one that begins its next turn
}

// lay puts steps on the list: the first is done next, then the second.
func (m *Machine) lay(steps ...step) {
	for n := len(steps) - 1; n >= 0; n-- {
		m.todo = append(m.todo, steps[n])
	}
}

// inTurn is the step that has others done, one behind the other.
func (m *Machine) inTurn(steps ...step) step {
	return func() { m.lay(steps...) }
}

func (m *Machine) give(v api.Value) {
	m.values = append(m.values, v)
}

func (m *Machine) take() api.Value {
	last := len(m.values) - 1
	v := m.values[last]
	m.values = m.values[:last]
	return v
}

// takeAll takes so many values; the first that was given comes first.
func (m *Machine) takeAll(count int) []api.Value {
	first := len(m.values) - count
	taken := m.values[first:]
	m.values = m.values[:first]
	return taken
}

// giveOr gives a value, or traps if there is a trap in its place.
func (m *Machine) giveOr(v api.Value, trap api.Trap) {
	if trap != api.NoTrap {
		m.trap(trap)
		return
	}
	m.give(v)
}

// trap ends the run: nothing is to be done any more.
func (m *Machine) trap(trap api.Trap) {
	m.outcome = api.Outcome{Phase: api.Trapped, Trap: trap}
	m.todo = nil
}

// tell brings out an event.
func (m *Machine) tell(kind api.EventKind, node int, name string, v api.Value) {
	// Who is told it shall share no text with the program or its variables.
	v.Text = strings.Clone(v.Text)
	m.news = api.Event{Kind: kind, Node: node, Name: strings.Clone(name), Value: v}
}

func (m *Machine) frame() *frame {
	return &m.frames[len(m.frames)-1]
}

// call begins a function with the newest values as its arguments.
func (m *Machine) call(f api.Func, body step) {
	if len(m.frames) == m.depth {
		m.trap(api.TrapDepth)
		return
	}
	slots := make([]api.Value, len(f.Vars))
	copy(slots, m.takeAll(f.Params))
	m.frames = append(m.frames, frame{slots: slots, below: len(m.todo), loops: map[int]int{}})
	m.lay(body)
	m.tell(api.EvCall, f.Node, f.Name, api.Value{})
}

// leave ends the innermost call; that is what it gives.
func (m *Machine) leave(result api.Value) {
	m.todo = m.todo[:m.frame().below]
	m.frames = m.frames[:len(m.frames)-1]
	m.give(result)
}

// begin begins a loop by a step that begins a turn, and that lays itself on the list below what it has to do in that turn.
func (m *Machine) begin(loop int, turn step) {
	m.frame().loops[loop] = len(m.todo)
	m.lay(turn)
}

func (m *Machine) breakOff(loop int) {
	m.todo = m.todo[:m.frame().loops[loop]]
}

func (m *Machine) continueWith(loop int) {
	m.todo = m.todo[:m.frame().loops[loop]+1]
}

// element gives what an index finds.
func (m *Machine) element() {
	index, of := m.take(), m.take()
	if of.Kind == api.ValText {
		m.giveOr(value.At(of, index))
		return
	}
	m.giveOr(m.heap.Get(of, index.Int))
}

// put sets the element of an array.
func (m *Machine) put() {
	v, index, array := m.take(), m.take(), m.take()
	if trap := m.heap.Put(array, index.Int, v); trap != api.NoTrap {
		m.trap(trap)
	}
}

func (m *Machine) length() {
	of := m.take()
	if of.Kind == api.ValText {
		m.give(number(int64(len(of.Text))))
		return
	}
	length, trap := m.heap.Len(of)
	m.giveOr(number(length), trap)
}

func (m *Machine) text() {
	m.give(api.Value{Kind: api.ValText, Text: value.Str(m.take())})
}

// next gives the next number of the input.
func (m *Machine) next() {
	if m.read == len(m.input) {
		m.trap(api.TrapInput)
		return
	}
	m.give(number(m.input[m.read]))
	m.read++
}

func (m *Machine) drop() {
	m.take()
}

// print puts out a line of so many values.
func (m *Machine) print(count int) {
	for i, v := range m.takeAll(count) {
		if i > 0 {
			m.output = append(m.output, ' ')
		}
		m.output = append(m.output, value.Str(v)...)
	}
	m.output = append(m.output, '\n')
}

func number(n int64) api.Value {
	return api.Value{Kind: api.ValInt, Int: n}
}
