package code

import (
	"strings"

	"retrace/api"
)

// codeMark is the byte that a code's bytes begin with.
const codeMark = 0x43

// Encode gives a code's bytes.
func Encode(c api.Code) (string, api.Errno) {
	if errno := Valid(c); errno != api.OK {
		return "", errno
	}
	b := []byte{codeMark, byte(c.Main), byte(len(c.Entrys))}
	for _, e := range c.Entrys {
		b = appendEntry(b, e)
	}
	b = appendNumber(b, int64(len(c.Texts)), 2)
	for _, text := range c.Texts {
		b = appendText(b, text)
	}
	b = appendNumber(b, int64(len(c.Instrs)), 4)
	for _, in := range c.Instrs {
		row := instructions[in.Op]
		b = append(b, byte(in.Op))
		b = appendNumber(b, in.A, shapes[row.a].bytes)
		b = appendNumber(b, in.B, shapes[row.b].bytes)
	}
	return string(b), api.OK
}

func appendEntry(b []byte, e api.Entry) []byte {
	b = appendText(b, e.Name)
	b = appendNumber(b, int64(e.Start), 4)
	b = append(b, byte(e.Params), byte(len(e.Sorts)))
	for _, sort := range e.Sorts {
		b = append(b, byte(sort))
	}
	return append(b, byte(e.Result))
}

// appendText writes a text behind its length.
func appendText(b []byte, text string) []byte {
	return append(append(b, byte(len(text))), text...)
}

// appendNumber writes a number's lowest bytes, the highest of them first.
func appendNumber(b []byte, n int64, bytes int) []byte {
	for bytes--; bytes >= 0; bytes-- {
		b = append(b, byte(n>>(8*bytes)))
	}
	return b
}

// Decode gives the code of bytes.
func Decode(b string) (api.Code, api.Errno) {
	r := reader{rest: b}
	mark, c := r.number(1), r.code()
	if mark != codeMark || r.broken || r.rest != "" || Valid(c) != api.OK {
		return api.Code{}, api.ErrCode
	}
	return c, api.OK
}

// reader reads bytes from the first one on.
type reader struct {
	rest   string
	broken bool // what was asked for was not there
}

// bytes reads so many of them, or none once something was not there.
func (r *reader) bytes(n int) string {
	if r.broken || n > len(r.rest) {
		r.broken = true
		return ""
	}
	read := r.rest[:n]
	r.rest = r.rest[n:]
	return read
}

// number reads a number of so many bytes, the highest first.
func (r *reader) number(bytes int) int64 {
	var n int64
	for _, one := range []byte(r.bytes(bytes)) {
		n = n<<8 | int64(one)
	}
	return n
}

// count reads how many there are of something. What is more than may be is not gone through.
func (r *reader) count(bytes, most int) int {
	n := int(r.number(bytes))
	if n > most {
		r.broken = true
		return 0
	}
	return n
}

func (r *reader) text() string {
	// A piece of the bytes would share their memory.
	return strings.Clone(r.bytes(int(r.number(1))))
}

// code reads all that stands behind the mark.
func (r *reader) code() api.Code {
	c := api.Code{Main: int(r.number(1))}
	for range r.count(1, api.MaxFuncs) {
		c.Entrys = append(c.Entrys, r.entry())
	}
	for range r.count(2, api.MaxTexts) {
		c.Texts = append(c.Texts, r.text())
	}
	for range r.count(4, api.MaxInstrs) {
		c.Instrs = append(c.Instrs, r.instr())
	}
	return c
}

func (r *reader) entry() api.Entry {
	e := api.Entry{Name: r.text()}
	e.Start = int(r.number(4))
	e.Params = int(r.number(1))
	for range r.count(1, api.MaxSlots) {
		e.Sorts = append(e.Sorts, api.Sort(r.number(1)))
	}
	e.Result = api.Sort(r.number(1))
	return e
}

func (r *reader) instr() api.Instr {
	in := api.Instr{Op: api.Code8(r.number(1))}
	if int(in.Op) >= len(instructions) {
		r.broken = true
		return api.Instr{}
	}
	row := instructions[in.Op]
	in.A = r.number(shapes[row.a].bytes)
	in.B = r.number(shapes[row.b].bytes)
	return in
}
