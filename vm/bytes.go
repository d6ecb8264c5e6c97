package vm

import (
	"strings"

	"retrace/api"
	"retrace/cells"
)

// saveMark is the byte that a machine's bytes begin with.
const saveMark = 0x56

// Save gives a machine's state as bytes.
func (m *Machine) Save() string {
	b := []byte{saveMark, byte(m.outcome.Phase), byte(m.outcome.Trap)}
	b = appendNumber(b, int64(m.steps), 8)
	b = appendNumber(b, int64(m.read), 8)
	b = appendNumber(b, int64(len(m.frames)), 4)
	for _, f := range m.frames {
		b = append(b, byte(f.function))
		b = appendNumber(b, int64(f.place), 4)
		b = appendValues(b, f.slots)
		b = appendNumber(b, int64(len(f.stack)), 2)
		b = appendValues(b, f.stack)
	}
	b = appendNumber(b, int64(len(m.output)), 8)
	b = append(b, m.output...)
	heap := m.heap.Save()
	b = appendNumber(b, int64(len(heap)), 8)
	return string(append(b, heap...))
}

func appendValues(b []byte, values []api.Value) []byte {
	for _, v := range values {
		b = append(b, byte(v.Kind))
		switch v.Kind {
		case api.ValBool:
			b = append(b, byte(v.Int))
		case api.ValText:
			b = appendNumber(b, int64(len(v.Text)), 2)
			b = append(b, v.Text...)
		default:
			b = appendNumber(b, v.Int, 8)
		}
	}
	return b
}

// appendNumber writes a number's lowest bytes, the highest of them first.
func appendNumber(b []byte, n int64, bytes int) []byte {
	for bytes--; bytes >= 0; bytes-- {
		b = append(b, byte(n>>(8*bytes)))
	}
	return b
}

// Load makes a machine of a code in a state that Save gave.
func Load(c api.Code, input []int64, l api.Limits, b string) (*Machine, api.Errno) {
	m, errno := New(c, input, l)
	if errno != api.OK {
		return nil, errno
	}
	r := reader{rest: b}
	m.restore(&r)
	if r.wrong || r.rest != "" || !m.mayStand() {
		return nil, api.ErrSave
	}
	return m, api.OK
}

// restore reads a state. The reader notes what is wrong by itself; whether the parts fit one another is still to be asked.
func (m *Machine) restore(r *reader) {
	r.within(1, saveMark, saveMark)
	m.outcome.Phase = api.Phase(r.within(1, int(api.Running), int(api.Trapped)))
	m.outcome.Trap = api.Trap(r.within(1, int(api.NoTrap), int(api.TrapStuck)))
	m.steps = r.within(8, 0, mostSteps)
	m.read = r.within(8, 0, len(m.input))
	m.frames = nil
	for range r.within(4, 0, m.limits.Depth) {
		m.frames = append(m.frames, m.restoredFrame(r))
	}
	m.output = []byte(r.piece(8))
	heap, errno := cells.Load(m.limits.Cells, r.piece(8))
	if errno != api.OK {
		r.wrong = true
		return
	}
	m.heap = *heap
}

func (m *Machine) restoredFrame(r *reader) frame {
	function := r.within(1, 0, len(m.code.Entrys)-1)
	entry := m.code.Entrys[function]
	place := r.within(4, entry.Start, m.pieceEnd(function))
	slots := r.values(len(entry.Sorts))
	stack := r.values(r.within(2, 0, api.MaxStack))
	return frame{function, place, slots, stack}
}

// mayStand tells whether the parts of a state that was read fit one another.
func (m *Machine) mayStand() bool {
	trapped, ended := m.outcome.Phase == api.Trapped, m.outcome.Phase == api.Ended
	if trapped != (m.outcome.Trap != api.NoTrap) || ended != (len(m.frames) == 0) {
		return false
	}
	for n, f := range m.frames {
		if n == 0 && f.function != m.code.Main || !m.fitAll(f.slots, m.code.Entrys[f.function].Sorts) {
			return false
		}
		for _, v := range f.stack {
			if !m.mayHave(v) {
				return false
			}
		}
	}
	return true
}

// reader reads bytes from the first one on.
type reader struct {
	rest  string
	wrong bool // something was not there, or may not be
}

// bytes reads so many of them, or none once something was wrong.
func (r *reader) bytes(n int) string {
	if r.wrong || n < 0 || n > len(r.rest) {
		r.wrong = true
		return ""
	}
	read := r.rest[:n]
	r.rest = r.rest[n:]
	return read
}

// number reads a number of so many bytes, the highest first.
func (r *reader) number(bytes int) int64 {
	var n int64
	for _, one := range []byte(r.bytes(bytes)) {
		n = n<<8 | int64(one)
	}
	return n
}

// within reads a number that is from the least to the most one. Where it is not, the answer is the least one, so that the rest can be read on without harm.
func (r *reader) within(bytes, least, most int) int {
	n := int(r.number(bytes))
	if n < least || n > most {
		r.wrong = true
		return least
	}
	return n
}

// piece reads bytes behind their number.
func (r *reader) piece(bytes int) string {
	return r.bytes(int(r.number(bytes)))
}

func (r *reader) values(count int) []api.Value {
	values := make([]api.Value, count)
	for n := range values {
		values[n] = r.value()
	}
	return values
}

func (r *reader) value() api.Value {
	v := api.Value{Kind: api.ValueKind(r.number(1))}
	switch v.Kind {
	case api.ValBool:
		v.Int = r.number(1)
	case api.ValText:
		v.Text = strings.Clone(r.piece(2)) // the bytes are not kept
	default:
		v.Int = r.number(8)
	}
	return v
}
