package record

import "retrace/api"

// reader reads what a writer has laid. It refuses nothing: of what no writer lays it makes something that a writer lays otherwise.
type reader struct {
	ahead
	rest string
}

// readEvents gives the events whose body this is, or, if it is nobody's, some others. Their texts are pieces of the body.
func readEvents(body string) []api.Event {
	r := reader{rest: body}
	r.byte()
	var part []api.Event
	// A chunk has no more: with something behind them the body is nobody's.
	for r.rest != "" && len(part) < chunkEvents {
		part = append(part, r.event())
	}
	return part
}

// readLast gives the record, but for its events, whose last chunk's body this is, or, if it is nobody's, another one. Its output is a piece of the body.
func readLast(body string) api.Record {
	r := reader{rest: body}
	r.byte()
	phase, trap := api.Phase(r.byte()), api.Trap(r.byte())
	input := fixedOf(r.bytes(2))
	r.bytes(4)
	return api.Record{Outcome: api.Outcome{Phase: phase, Trap: trap}, Output: r.rest, Input: int(input)}
}

func (r *reader) event() api.Event {
	kinds := r.byte()
	r.node += int(r.signed())
	e := api.Event{Kind: api.EventKind(kinds & 15), Node: r.node, Name: r.name()}
	if row, known := rowOf(api.ValueKind(kinds >> 4)); known {
		e.Value = row.read(r)
	}
	e.Value.Kind = api.ValueKind(kinds >> 4)
	return e
}

func (r *reader) name() string {
	place := r.number()
	switch {
	case place == 0:
		return ""
	case place <= uint64(len(r.names)):
		return r.names[place-1]
	}
	name := r.bytes(uint64(r.byte()))
	r.names = append(r.names, name)
	return name
}

// byte reads one byte; 0, if there is none.
func (r *reader) byte() byte {
	if r.rest == "" {
		return 0
	}
	b := r.rest[0]
	r.rest = r.rest[1:]
	return b
}

// bytes reads so many bytes, or as many as there are.
func (r *reader) bytes(n uint64) string {
	n = min(n, uint64(len(r.rest)))
	read := r.rest[:n]
	r.rest = r.rest[n:]
	return read
}

// number reads a number of at most ten bytes.
func (r *reader) number() uint64 {
	var n uint64
	for shift := 0; shift < 64; shift += 7 {
		b := r.byte()
		n |= uint64(b&127) << shift
		if b < 128 {
			break
		}
	}
	return n
}

func (r *reader) signed() int64 {
	n := r.number()
	return int64(n>>1) ^ -int64(n&1)
}
