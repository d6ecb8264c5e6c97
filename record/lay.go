package record

import (
	"slices"

	"retrace/api"
)

const (
	// eventsMark is the byte that the body of an events' chunk begins with.
	eventsMark = 0x01
	// lastMark is the one that the body of the last chunk begins with.
	lastMark = 0x02
	// chunkEvents is how many events a chunk has at most.
	chunkEvents = 64
)

// ahead is what stood ahead of an event in its chunk, on which hangs how the event is laid.
type ahead struct {
	node  int      // of the event just ahead
	names []string // in the order of their first standing
}

// writer lays events into bytes.
type writer struct {
	ahead
	laid []byte
}

// eventsBody gives the body of a chunk of events that may be.
func eventsBody(part []api.Event) string {
	var w writer
	w.byte(eventsMark)
	for _, e := range part {
		w.event(e)
	}
	return string(w.laid)
}

func (w *writer) event(e api.Event) {
	row, _ := rowOf(e.Value.Kind)
	w.byte(byte(e.Kind) | byte(e.Value.Kind)<<4)
	w.signed(int64(e.Node - w.node))
	w.node = e.Node
	w.name(e.Name)
	row.lay(w, e.Value)
}

func (w *writer) name(name string) {
	if name == "" {
		w.number(0)
		return
	}
	if place := slices.Index(w.names, name); place >= 0 {
		w.number(uint64(place) + 1)
		return
	}
	w.names = append(w.names, name)
	w.number(uint64(len(w.names)))
	w.byte(byte(len(name)))
	w.bytes(name)
}

func (w *writer) byte(b byte) { w.laid = append(w.laid, b) }

func (w *writer) bytes(b string) { w.laid = append(w.laid, b...) }

// number writes seven bits a byte, the lowest first.
func (w *writer) number(n uint64) {
	for ; n >= 1<<7; n >>= 7 {
		w.byte(byte(n) | 1<<7)
	}
	w.byte(byte(n))
}

func (w *writer) signed(n int64) {
	// Below 0 all bits of 2n are turned over, which is -2n - 1.
	w.number(uint64(n<<1) ^ uint64(n>>63))
}

// lastBody gives the body of the last chunk of a record.
func lastBody(r api.Record) string {
	head := string([]byte{lastMark, byte(r.Outcome.Phase), byte(r.Outcome.Trap)})
	return head + fixed(r.Input, 2) + fixed(len(r.Events), 4) + r.Output
}
