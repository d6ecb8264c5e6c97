package record

import (
	"encoding/binary"
	"math"
	"slices"
	"strings"
	"testing"

	"retrace/api"
	"retrace/value"
)

// P25.1, P25.2: as many events as may be, and one more; a file that is full has no chunk more.
func TestMostEvents(t *testing.T) {
	list := make([]api.Event, api.MaxEvents, api.MaxEvents+1)
	for n := range list {
		list[n] = api.Event{Kind: api.EventKind(1 + n%8), Node: n % api.MaxTree, Name: "abc"[:n%4], Value: number(int64(n))}
	}
	r := api.Record{Outcome: api.Outcome{Phase: api.Ended}, Output: "end", Events: list}
	b := lays(t, r)
	chunks := piecesOf(t, b, len(list))
	less := r
	less.Events = list[:api.MaxEvents-1]
	lays(t, less)

	last := chunks[len(chunks)-1]
	full := b[:last.from]
	for n, more := range []string{framed("\x01\x01\x00\x00"), framed(wantedEvents(list[:64])), framed("\x02" + strings.Repeat("\x00", 8)), framed("\x02\x00\x00\x00\x00\x00\x10\x00\x01")} {
		if testing.Short() && n > 0 {
			break
		}
		for _, behind := range []string{b[last.from:], framed("\x02\x00\x00\x00\x00\x00\x10\x00\x01")} {
			if s, n, errno := Salvage(full + more + behind); !same(s, of(list...)) || n != len(full) || errno != api.OK {
				t.Errorf("P25.3: a chunk more: %d events, %d bytes, %d", len(s.Events), n, errno)
			}
			if s, errno := Decode(full + more + behind); !same(s, api.Record{}) || errno != api.ErrRecord {
				t.Errorf("P25.2: a chunk more: %d events, %d", len(s.Events), errno)
			}
		}
	}
	more := r
	more.Events = append(list, list[0])
	for _, output := range []string{"", "end"} {
		for _, input := range []int{0, -1} {
			more.Output, more.Input = output, input
			if b, errno := Encode(more); b != "" || errno != api.ErrSize {
				t.Errorf("P25.1: an event more: %d bytes, %d", len(b), errno)
			}
		}
	}
	// ErrSize comes ahead of all that may not be.
	more.Events[5].Kind = 0
	if b, errno := Encode(more); b != "" || errno != api.ErrSize {
		t.Errorf("P25.1: %d bytes, %d", len(b), errno)
	}
	r.Events = r.Events[:api.MaxEvents]
	if b, errno := Encode(r); b != "" || errno != api.ErrArg {
		t.Errorf("P25.1: %d bytes, %d", len(b), errno)
	}
	list[5].Kind = 1
	for _, n := range []int{63, 64, len(list) - 1} {
		list[n].Node = -1
		if b, errno := Encode(r); b != "" || errno != api.ErrArg {
			t.Errorf("P25.1: the event %d: %d bytes, %d", n, len(b), errno)
		}
		list[n].Node = n % api.MaxTree
	}
}

// P25.1, P25.2, P25.3: an output as long as may be, and one byte longer.
func TestMostOutput(t *testing.T) {
	const most = 16777216
	long := strings.Repeat("out\n", most/4) + "x"
	r := api.Record{Outcome: api.Outcome{Phase: api.Ended}, Output: long[:most], Input: 1000, Events: numbered(65)}
	b := lays(t, r)
	asks(t, b)
	asks(t, b+"\x00")
	asks(t, b[:len(b)-1])
	less := r
	less.Output = long[:most-1]
	lays(t, less)
	more := r
	more.Output = long
	for _, wrong := range []int{1000, -1} {
		more.Input = wrong
		if b, errno := Encode(more); b != "" || errno != api.ErrSize {
			t.Errorf("P25.1: a byte more: %d bytes, %d", len(b), errno)
		}
	}
	more.Input, more.Outcome.Trap = 1000, 1
	if b, errno := Encode(more); b != "" || errno != api.ErrSize {
		t.Errorf("P25.1: a byte more: %d bytes, %d", len(b), errno)
	}
	more.Outcome.Trap = 0
	chunks := piecesOf(t, b, 65)
	spoilt := b[:chunks[2].from] + framed(wantedLast(more))
	if s, n, errno := Salvage(spoilt); !same(s, of(r.Events...)) || n != chunks[2].from || errno != api.OK {
		t.Errorf("P25.3: a byte more: %d events, %d bytes of output, %d, %d", len(s.Events), len(s.Output), n, errno)
	}
	if s, errno := Decode(spoilt); !same(s, api.Record{}) || errno != api.ErrRecord {
		t.Errorf("P25.2: a byte more: %d events, %d", len(s.Events), errno)
	}
	long = strings.Repeat("\x00", 50<<20)
	asks(t, "R\x01"+framed("\x02"+long))
	asks(t, "R\x01"+framed("\x01"+long))
	asks(t, "R\x01"+framed("\x01\x36\x00\x00\x80\x80\x80\x08"+long))
	asks(t, "R\x01"+framed(long))
	asks(t, "R\x01"+long)
}

// P25.1: each number of an event at its edges and beyond them.
func TestEventEdges(t *testing.T) {
	good := api.Event{Kind: api.EvSet, Node: 7, Name: "x", Value: number(1)}
	ask := func(want bool, e api.Event) {
		t.Helper()
		for _, r := range []api.Record{of(e), of(good, e), of(e, good), of(append(slices.Repeat([]api.Event{good}, 63), e)...), of(append(slices.Repeat([]api.Event{good}, 64), e)...)} {
			if b := lays(t, r); (b != "") != want {
				t.Errorf("P25.1: %+v: %.500x", e, b)
			}
		}
	}
	for _, n := range []int{math.MinInt, -256, -1, 0, 1, 2, 3, 4, 5, 6, 7, 8, 9, 15, 16, 17, 255, 256, 257, 1 << 32, math.MaxInt} {
		e := good
		e.Kind = api.EventKind(n)
		ask(n >= 1 && n <= 8, e)
	}
	for _, n := range []int{math.MinInt, -40000, -1, 0, 1, 6, 8, 39998, 39999, 40000, 40001, 1 << 32, math.MaxInt} {
		e := good
		e.Node = n
		ask(n >= 0 && n <= 39999, e)
	}
	for length := range 300 {
		e := good
		e.Name = strings.Repeat("y", length)
		ask(length <= 24, e)
	}
	for b := range 256 {
		e := good
		e.Name = string([]byte{byte(b)})
		ask(true, e)
		e.Name = string([]byte{'x', byte(b)})
		e.Value = text(e.Name)
		ask(true, e)
	}
	for _, kind := range []int{math.MinInt, -1, 0, 1, 2, 3, 4, 5, 6, 15, 16, 17, 18, 256, 257, 1 << 32, math.MaxInt} {
		for _, n := range []int64{math.MinInt64, -2, -1, 0, 1, 2, 255, 256, 257, 1 << 32, math.MaxInt64} {
			for _, s := range []string{"", "s", "\x00", strings.Repeat("s", 255), strings.Repeat("s", 256), strings.Repeat("s", 257), strings.Repeat("s", 512)} {
				e := good
				e.Value = api.Value{Kind: api.ValueKind(kind), Int: n, Text: s}
				ask(value.Valid(e.Value), e)
			}
		}
	}
}

// P25.1: each number of the rest at its edges and beyond them.
func TestEndEdges(t *testing.T) {
	for _, n := range []int{math.MinInt, -65536, -256, -1, 0, 1, 2, 3, 4, 7, 8, 255, 256, 257, 258, 1 << 32, math.MaxInt} {
		for trap := -2; trap < 10; trap++ {
			o := api.Outcome{Phase: api.Phase(n), Trap: api.Trap(trap)}
			if b := lays(t, api.Record{Outcome: o}); (b != "") != slices.Contains(outcomes, o) {
				t.Errorf("P25.1: %+v: %x", o, b)
			}
		}
		for phase := range 4 {
			o := api.Outcome{Phase: api.Phase(phase), Trap: api.Trap(n)}
			if b := lays(t, api.Record{Outcome: o}); (b != "") != slices.Contains(outcomes, o) {
				t.Errorf("P25.1: %+v: %x", o, b)
			}
		}
	}
	for _, n := range []int{math.MinInt, -65536, -1, 0, 1, 255, 256, 999, 1000, 1001, 65535, 65536, 65537, 1 << 32, math.MaxInt} {
		if b := lays(t, api.Record{Input: n}); (b != "") != (n >= 0 && n <= 1000) {
			t.Errorf("P25.1: %d numbers read: %x", n, b)
		}
	}
}

// P25.1: as many names in a chunk as may be: each stands once, in the order in which they come first.
func TestMostNames(t *testing.T) {
	var list []api.Event
	for n := range 130 {
		list = append(list, api.Event{Kind: api.EvStmt, Name: "n" + string(rune('0'+n%64))})
	}
	for turn := range 3 {
		b := lays(t, of(list...))
		for n, c := range piecesOf(t, b, 130)[:2] {
			for m := range 64 {
				if !strings.Contains(b[c.from:c.to], string([]byte{byte(m + 1)})+string([]byte{byte(len(list[64*n+m].Name))})+list[64*n+m].Name) {
					t.Fatalf("P25.1: turn %d: the name %d of chunk %d is not there: %x", turn, m+1, n+1, b)
				}
			}
		}
		slices.Reverse(list[:64])
		list[64].Name = "n\xff"
	}
}

// P25.2: numbers that are longer than need be, or too great.
func TestNumbersRead(t *testing.T) {
	nines := strings.Repeat("\xff", 9)
	for _, row := range []struct {
		body string
		want bool
	}{
		{"\x01\x16\x00\x00" + nines + "\x01", true},
		{"\x01\x16\x00\x00" + nines + "\x00", false},
		{"\x01\x16\x00\x00" + nines + "\x02", false},
		{"\x01\x16\x00\x00" + nines + "\x03", false},
		{"\x01\x16\x00\x00" + nines + "\x7f", false},
		{"\x01\x16\x00\x00" + nines + "\x81", false},
		{"\x01\x16\x00\x00" + nines + "\x81\x00", false},
		{"\x01\x16\x00\x00" + nines + "\xff\x01", false},
		{"\x01\x16\x00\x00" + nines + "\x80\x01", false},
		{"\x01\x16\x00\x00" + strings.Repeat("\x80", 50) + "\x00", false},
		{"\x01\x16\x00\x00" + strings.Repeat("\x80", 1<<20), false},
		{"\x01\x16\x00\x00" + strings.Repeat("\x80", 9) + "\x01", true},
		{"\x01\x16\x00\x00\x80\x00", false},
		{"\x01\x16\x00\x00\x81\x00", false},
		{"\x01\x16\x00\x00\x80", false},
		{"\x01\x16\x00\x00", false},
		{"\x01\x46\x00\x00" + strings.Repeat("\xff", 8) + "\x7f", true},
		{"\x01\x46\x00\x00" + strings.Repeat("\x80", 9) + "\x01", false}, // 2^63
		{"\x01\x46\x00\x00" + nines + "\x01", false},
		{"\x01\x46\x00\x00\x80\x00", false},
		{"\x01\x01\xfe\xf0\x04\x00", true},                      // the node 39999
		{"\x01\x01\x80\xf1\x04\x00", false},                     // 40000
		{"\x01\x01\x01\x00", false},                             // -1
		{"\x01\x01\xfe\xf0\x04\x00\x01\xfd\xf0\x04\x00", true},  // 39999, 0
		{"\x01\x01\xfe\xf0\x04\x00\x01\xff\xf0\x04\x00", false}, // 39999, -1
		{"\x01\x01\xfe\xf0\x04\x00\x01\x02\x00", false},         // 39999, 40000
		{"\x01\x01\x02\x00\x01\x02\x00\x01\x03\x00", true},      // 1, 2, 0
		{"\x01\x01\xfe" + strings.Repeat("\xff", 8) + "\x01\x00", false},
		{"\x01\x01\x02\x00\x01\xfe" + strings.Repeat("\xff", 8) + "\x01\x00", false},
		{"\x01\x01\x02\x00\x01" + nines + "\x01\x00", false},
		{"\x01\x01\x80\x80\x80\x80\x80\x01\x00", false}, // 2^34: nothing, if it were cut to 32 bits
		{"\x01\x36\x00\x00\x00", true},
		{"\x01\x36\x00\x00\x80\x00", false},
		{"\x01\x36\x00\x00\x80\x02" + strings.Repeat("s", 256), true},
		{"\x01\x36\x00\x00\x81\x02" + strings.Repeat("s", 257), false},
		{"\x01\x36\x00\x00\x80\x02" + strings.Repeat("s", 255), false},
		{"\x01\x36\x00\x00" + nines + "\x01", false},
		{"\x01\x36\x00\x00" + nines + "\x01s", false},
		{"\x01\x36\x00\x00" + strings.Repeat("\x80", 9) + "\x01s", false},
		{"\x01\x01\x00\x01\x18" + strings.Repeat("n", 24), true},
		{"\x01\x01\x00\x01\x19" + strings.Repeat("n", 25), false},
		{"\x01\x01\x00\x01\x18" + strings.Repeat("n", 23), false},
		{"\x01\x01\x00\x01\x00", false},
		{"\x01\x01\x00\x02\x01n", false},
		{"\x01\x01\x00\x81\x00\x01n", false},
		{"\x01\x01\x00\x01\x01n\x01\x00\x01", true},
		{"\x01\x01\x00\x01\x01n\x01\x00\x02\x01n", false},
		{"\x01\x01\x00\x01\x01n\x01\x00\x02\x01m", true},
		{"\x01\x01\x00\x01\x01n\x01\x00\x03\x01m", false},
		{"\x01\x01\x00\x01\x01n\x01\x00\x01\x01m", false},
		{"\x01\x01\x00" + nines + "\x01\x01n", false},
		{"\x01\x26\x00\x00\x02", false},
		{"\x01\x56\x00\x00", false},
		{"\x01\xf6\x00\x00", false},
		{"\x01\x00\x00\x00", false},
		{"\x01\x09\x00\x00", false},
		{"\x01\x0f\x00\x00", false},
		{"\x01", false},
		{"\x00", false},
		{"\x03\x01\x00\x00", false},
	} {
		s := asks(t, "R\x01"+framed(row.body))
		if (s.taken > 2) != row.want {
			t.Errorf("P25.3: %.100x: %d events, %d bytes", row.body, len(s.record.Events), s.taken)
		}
		asks(t, "R\x01"+framed(row.body)+framed(wantedLast(s.record)))
	}
}

// P25.3: lengths of chunks of all sizes, with sums that would be right.
func TestLengths(t *testing.T) {
	body := "\x01\x01\x00\x00"
	for _, n := range []uint32{0, 1, 3, 4, 5, 8, 255, 256, 1 << 16, 1 << 24, 1<<31 - 5, 1<<31 - 4, 1<<31 - 1, 1 << 31, 1<<31 + 1, 1<<32 - 9, 1<<32 - 8, 1<<32 - 4, 1<<32 - 1} {
		for _, more := range []string{"", "\x00", strings.Repeat("\x00", 300)} {
			chunk := string(binary.BigEndian.AppendUint32(nil, n)) + body + more
			if s := asks(t, "R\x01"+chunk); s.taken != 2 {
				t.Errorf("P25.3: %x: %+v", chunk, s)
			}
			chunk += string(binary.BigEndian.AppendUint32(nil, sum(chunk)))
			if s := asks(t, "R\x01"+chunk); s.taken != 2 && n != 4 {
				t.Errorf("P25.3: %x: %+v", chunk, s)
			}
		}
	}
	asks(t, "R\x01"+framed(""))
	asks(t, "R\x01"+framed("")+framed(body))
	asks(t, "R\x01"+strings.Repeat("\x00", 100))
	asks(t, "R\x01"+strings.Repeat("\xff", 100))
}

// P25.3: more events in one chunk than may be.
func TestFullChunks(t *testing.T) {
	for count := 60; count < 70; count++ {
		s := asks(t, "R\x01"+framed(wantedEvents(numbered(count)))+framed(wantedLast(of(numbered(count)...))))
		if s.last != (count <= 64) {
			t.Errorf("P25.3: %d events in one chunk: %d events, %d bytes", count, len(s.record.Events), s.taken)
		}
	}
	one := framed("\x01\x01\x00\x00")
	asks(t, "R\x01"+one+one)
	asks(t, "R\x01"+framed(wantedEvents(numbered(63)))+one+framed(wantedLast(of(numbered(64)...))))
	asks(t, "R\x01"+framed("\x01"+strings.Repeat("\x01\x00\x00", 1<<20)))
}
