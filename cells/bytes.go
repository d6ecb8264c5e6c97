package cells

import (
	"strings"

	"retrace/api"
)

// saveMark is the byte that a heap's bytes begin with.
const saveMark = 0x48

// Save gives a heap's bytes.
func (h *Heap) Save() string {
	b := appendNumber([]byte{saveMark}, h.count(), 8)
	for _, a := range h.arrays {
		b = append(b, byte(a.kind))
		b = appendNumber(b, int64(len(a.elements)), 8)
		for _, v := range a.elements {
			b = appendElement(b, v)
		}
	}
	return string(b)
}

func appendElement(b []byte, v api.Value) []byte {
	switch v.Kind {
	case api.ValBool:
		return append(b, byte(v.Int))
	case api.ValText:
		return append(appendNumber(b, int64(len(v.Text)), 2), v.Text...)
	}
	return appendNumber(b, v.Int, 8)
}

// appendNumber writes a number's lowest bytes, the highest of them first.
func appendNumber(b []byte, n int64, bytes int) []byte {
	for bytes--; bytes >= 0; bytes-- {
		b = append(b, byte(n>>(8*bytes)))
	}
	return b
}

// Load makes a heap with so many cells of bytes that Save gave.
func Load(limit int, b string) (*Heap, api.Errno) {
	h, r := New(limit), reader{rest: b}
	mark, arrays := r.number(1), r.number(8)
	whole := mark == saveMark && arrays >= 0
	for n := int64(0); whole && n < arrays; n++ {
		whole = h.read(&r, arrays)
	}
	if !whole || r.lacking || r.rest != "" {
		return nil, api.ErrSave
	}
	return h, api.OK
}

// read makes the next array, of a heap that is to have so many, and tells whether it could be.
func (h *Heap) read(r *reader, arrays int64) bool {
	kind, length := api.ValueKind(r.number(1)), r.number(8)
	ref, trap := h.Make(kind, length)
	if r.lacking || trap != api.NoTrap {
		return false
	}
	elements := h.arrays[ref.Int-1].elements
	for place := range elements {
		v := r.element(kind)
		if r.lacking || !mayBe(v, kind, arrays) { // Put would refuse an array that is still to come
			return false
		}
		elements[place] = v
	}
	return true
}

// reader reads bytes from the first one on.
type reader struct {
	rest    string
	lacking bool // more was asked for than there was
}

func (r *reader) bytes(n int) string {
	if n > len(r.rest) {
		r.lacking = true
		return ""
	}
	read := r.rest[:n]
	r.rest = r.rest[n:]
	return read
}

// number reads a number of so many bytes, the highest first.
func (r *reader) number(bytes int) int64 {
	var n int64
	for _, one := range []byte(r.bytes(bytes)) {
		n = n<<8 | int64(one)
	}
	return n
}

func (r *reader) element(kind api.ValueKind) api.Value {
	v := api.Value{Kind: kind}
	switch kind {
	case api.ValBool:
		v.Int = r.number(1)
	case api.ValText:
		v.Text = strings.Clone(r.bytes(int(r.number(2))))
	default:
		v.Int = r.number(8)
	}
	return v
}
