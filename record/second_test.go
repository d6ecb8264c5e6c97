package record

import (
	"encoding/binary"
	"fmt"
	"hash/crc32"
	"slices"
	"strings"
	"testing"

	"retrace/api"
	"retrace/value"
)

// The chapter written out a second time: by other means, as plainly as may be.

// brief is a record, or its first events, if it has very many.
func brief(r api.Record) string {
	return fmt.Sprintf("%+v, %.100q, %d read, %d events: %+v", r.Outcome, r.Output, r.Input, len(r.Events), r.Events[:min(5, len(r.Events))])
}

func same(a, b api.Record) bool {
	return a.Outcome == b.Outcome && a.Output == b.Output && a.Input == b.Input && slices.Equal(a.Events, b.Events)
}

// framed is a chunk with that body.
func framed(body string) string {
	b := binary.BigEndian.AppendUint32(nil, uint32(len(body)))
	b = append(b, body...)
	return string(binary.BigEndian.AppendUint32(b, crc32.ChecksumIEEE(b)))
}

func wantedEvents(part []api.Event) string {
	b := []byte{1}
	places := map[string]int{}
	node := 0
	for _, e := range part {
		b = append(b, byte(int(e.Kind)+16*int(e.Value.Kind)))
		b = binary.AppendVarint(b, int64(e.Node-node))
		node = e.Node
		place, known := places[e.Name]
		switch {
		case e.Name == "":
			b = append(b, 0)
		case known:
			b = binary.AppendUvarint(b, uint64(place))
		default:
			places[e.Name] = len(places) + 1
			b = binary.AppendUvarint(b, uint64(len(places)))
			b = append(b, byte(len(e.Name)))
			b = append(b, e.Name...)
		}
		switch v := e.Value; v.Kind {
		case api.ValInt:
			b = binary.AppendVarint(b, v.Int)
		case api.ValBool:
			b = append(b, byte(v.Int))
		case api.ValText:
			b = binary.AppendUvarint(b, uint64(len(v.Text)))
			b = append(b, v.Text...)
		case api.ValRef:
			b = binary.AppendUvarint(b, uint64(v.Int))
		}
	}
	return string(b)
}

func wantedLast(r api.Record) string {
	b := []byte{2, byte(r.Outcome.Phase), byte(r.Outcome.Trap)}
	b = binary.BigEndian.AppendUint16(b, uint16(r.Input))
	b = binary.BigEndian.AppendUint32(b, uint32(len(r.Events)))
	return string(b) + r.Output
}

// outcomes are all that may be.
var outcomes = []api.Outcome{{}, {Phase: 1}, {Phase: 2, Trap: 1}, {Phase: 2, Trap: 2}, {Phase: 2, Trap: 3}, {Phase: 2, Trap: 4}, {Phase: 2, Trap: 5}, {Phase: 2, Trap: 6}, {Phase: 2, Trap: 7}}

func wantedMayBe(r api.Record) bool {
	for _, e := range r.Events {
		if e.Kind < 1 || e.Kind > 8 || e.Node < 0 || e.Node > 39999 || len(e.Name) > 24 || !value.Valid(e.Value) {
			return false
		}
	}
	return slices.Contains(outcomes, r.Outcome) && r.Input >= 0 && r.Input <= 1000
}

// wantedFile is P25.1.
func wantedFile(r api.Record) (string, api.Errno) {
	if len(r.Events) > 1048576 || len(r.Output) > 16777216 {
		return "", api.ErrSize
	}
	if !wantedMayBe(r) {
		return "", api.ErrArg
	}
	var file strings.Builder
	file.WriteString("\x52\x01")
	for n := 0; n < len(r.Events); n += 64 {
		file.WriteString(framed(wantedEvents(r.Events[n:min(n+64, len(r.Events))])))
	}
	file.WriteString(framed(wantedLast(r)))
	return file.String(), api.OK
}

// firstChunk is the body of the chunk that some bytes begin with, if one does.
func firstChunk(b string) (string, bool) {
	if len(b) < 4 {
		return "", false
	}
	n := uint64(binary.BigEndian.Uint32([]byte(b)))
	if n == 0 || uint64(len(b)) < n+8 {
		return "", false
	}
	body := b[4 : 4+n]
	return body, framed(body) == b[:n+8]
}

// guessed is a record that goes on from another one by what a chunk's body tells, however it is laid; what may not be among it.
func guessed(r api.Record, body string) (g api.Record, made bool) {
	defer func() {
		if recover() != nil {
			made = false
		}
	}()
	b := strings.NewReader(body)
	take := func(n uint64) string {
		if n > uint64(b.Len()) {
			panic("nothing more")
		}
		piece := make([]byte, n)
		b.Read(piece)
		return string(piece)
	}
	number := func() uint64 {
		n, err := binary.ReadUvarint(b)
		if err != nil {
			panic(err)
		}
		return n
	}
	signed := func() int64 {
		n, err := binary.ReadVarint(b)
		if err != nil {
			panic(err)
		}
		return n
	}
	g = api.Record{Events: slices.Clone(r.Events)}
	if take(1) == "\x02" {
		head := []byte(take(8))
		g.Outcome = api.Outcome{Phase: api.Phase(head[0]), Trap: api.Trap(head[1])}
		g.Input = int(binary.BigEndian.Uint16(head[2:]))
		g.Output = take(uint64(b.Len()))
		return g, true
	}
	names := []string{""}
	node := int64(0)
	for b.Len() > 0 {
		if len(g.Events) > len(r.Events)+64 {
			return g, false
		}
		first := take(1)[0]
		node += signed()
		e := api.Event{Kind: api.EventKind(first % 16), Node: int(node), Value: api.Value{Kind: api.ValueKind(first / 16)}}
		if place := number(); place < uint64(len(names)) {
			e.Name = names[place]
		} else {
			e.Name = take(uint64(take(1)[0]))
			names = append(names, e.Name)
		}
		switch v := &e.Value; v.Kind {
		case api.ValInt:
			v.Int = signed()
		case api.ValBool:
			v.Int = int64(take(1)[0])
		case api.ValText:
			v.Text = take(number())
		case api.ValRef:
			v.Int = int64(number())
		}
		g.Events = append(g.Events, e)
	}
	return g, true
}

// salvaged is what P25.3 says of some bytes; last, if the last chunk came.
type salvaged struct {
	record api.Record
	taken  int
	last   bool
	errno  api.Errno
}

// wantedSalvage is P25.3: a chunk is right if the file of the record that it tells begins just with all bytes up to its end.
func wantedSalvage(b string) salvaged {
	if !strings.HasPrefix(b, "R\x01") {
		return salvaged{errno: api.ErrRecord}
	}
	s := salvaged{taken: 2}
	for !s.last {
		body, whole := firstChunk(b[s.taken:])
		if !whole {
			break
		}
		g, made := guessed(s.record, body)
		if !made {
			break
		}
		file, errno := wantedFile(g)
		end, last := s.taken+8+len(body), body[0] == 2
		if errno != api.OK || !strings.HasPrefix(file, b[:end]) || last && len(file) != end {
			break
		}
		s.record, s.taken, s.last = g, end, last
	}
	return s
}

// asks holds Salvage and Decode of some bytes against the chapter, and tells what they should salvage.
func asks(t testing.TB, b string) salvaged {
	t.Helper()
	want := wantedSalvage(b)
	if r, n, errno := Salvage(b); !same(r, want.record) || n != want.taken || errno != want.errno {
		t.Fatalf("P25.3: Salvage(%.500x) = %s, %d, %d, want %s, %d, %d", b, brief(r), n, errno, brief(want.record), want.taken, want.errno)
	}
	r, errno := Decode(b)
	if want.last && want.taken == len(b) {
		if !same(r, want.record) || errno != api.OK {
			t.Fatalf("P25.2: Decode(%.500x) = %s, %d, want %s", b, brief(r), errno, brief(want.record))
		}
		if again, errno := Encode(r); again != b || errno != api.OK {
			t.Fatalf("P25.5: Encode(%s) = %.500x, %d, want %.500x", brief(r), again, errno, b)
		}
	} else if !same(r, api.Record{}) || errno != api.ErrRecord {
		t.Fatalf("P25.2: Decode(%.500x) = %s, %d, want ErrRecord", b, brief(r), errno)
	}
	return want
}

// lays holds Encode of a record against the chapter, and its file against all calls.
func lays(t testing.TB, r api.Record) string {
	t.Helper()
	want, wantErrno := wantedFile(r)
	b, errno := Encode(r)
	if b != want || errno != wantErrno {
		t.Fatalf("P25.1: Encode(%s) = %.500x, %d, want %.500x, %d", brief(r), b, errno, want, wantErrno)
	}
	if errno != api.OK {
		return ""
	}
	if told, errno := Decode(b); !same(told, r) || errno != api.OK {
		t.Fatalf("P25.5: Decode(Encode(%s)) = %s, %d", brief(r), brief(told), errno)
	}
	if told, n, errno := Salvage(b); !same(told, r) || n != len(b) || errno != api.OK {
		t.Fatalf("P25.6: Salvage(Encode(%s)) = %s, %d of %d, %d", brief(r), brief(told), n, len(b), errno)
	}
	return b
}

// piece is where a chunk of a file stands, and how many events there are ahead of it.
type piece struct {
	from, to int
	events   int
}

// piecesOf are the chunks of a file that is whole.
func piecesOf(t testing.TB, b string, events int) []piece {
	t.Helper()
	var all []piece
	for at, n := 2, 0; at < len(b); n++ {
		end := at + 8 + int(binary.BigEndian.Uint32([]byte(b[at:])))
		all = append(all, piece{at, end, min(64*n, events)})
		at = end
	}
	if len(all) != (events+63)/64+1 || all[len(all)-1].to != len(b) {
		t.Fatalf("%d events, the chunks %v of %d bytes", events, all, len(b))
	}
	return all
}
