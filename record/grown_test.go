package record

import (
	"strconv"
	"strings"
	"testing"

	"retrace/api"
)

// P25.1, P25.2, P25.5, P25.6: any record that may be.
func TestGrown(t *testing.T) {
	for seed := range seeds(20000) {
		g := newGrower(seed)
		r := g.record(g.count())
		if b := lays(t, r); b == "" {
			t.Fatalf("%s may not be", brief(r))
		}
	}
}

// P25.1: records of which something is another, which mostly may not be.
func TestGrownWrong(t *testing.T) {
	taken, not := 0, 0
	for seed := range seeds(60000) {
		g := newGrower(1e6 + seed)
		if b := lays(t, g.spoilt(g.record(1+g.Intn(70)))); b == "" {
			not++
		} else {
			taken++
		}
	}
	if taken < 100 || not < 1000 {
		t.Errorf("%d taken, %d not", taken, not)
	}
}

// P25.2, P25.3: files of which chunks are others, or stand elsewhere, with sums that are right.
func TestRebuilt(t *testing.T) {
	lasts, firsts, none := 0, 0, 0
	for seed := range seeds(20000) {
		g := newGrower(2e6 + seed)
		one, _ := Encode(g.record(g.count()))
		other, _ := Encode(g.record(g.count()))
		switch s := asks(t, g.rebuilt(one, other)); {
		case s.last:
			lasts++
		case s.taken > 2:
			firsts++
		default:
			none++
		}
	}
	if lasts < 100 || firsts < 100 || none < 100 {
		t.Errorf("%d with their last chunk, %d with some, %d with none", lasts, firsts, none)
	}
}

// P25.2, P25.3: files of which some bytes are others, put in or left out, whatever becomes of lengths and sums.
func TestChangedBytes(t *testing.T) {
	for seed := range seeds(30000) {
		g := newGrower(3e6 + seed)
		b, _ := Encode(g.record(g.count()))
		for range 1 + g.Intn(3) {
			b = g.changed(b)
		}
		asks(t, b)
	}
}

// eventsAhead is how many events the chunks have that end at an offset, or ahead of it.
func eventsAhead(chunks []piece, all, at int) (events, taken int) {
	events, taken = 0, 2
	for n, c := range chunks {
		if c.to > at {
			break
		}
		events, taken = all, c.to
		if n+1 < len(chunks) {
			events = chunks[n+1].events
		}
	}
	return events, taken
}

// P25.6: a file that was cut anywhere gives the events of its whole chunks; a whole one gives all, whatever stands behind it.
func TestCut(t *testing.T) {
	for seed := range seeds(60) {
		g := newGrower(4e6 + seed)
		r := g.record(g.count())
		b := lays(t, r)
		chunks := piecesOf(t, b, len(r.Events))
		for n := 2; n < len(b); n++ {
			events, taken := eventsAhead(chunks, len(r.Events), n)
			s, m, errno := Salvage(b[:n])
			if !same(s, of(r.Events[:events]...)) || m != taken || errno != api.OK {
				t.Fatalf("P25.6: the first %d bytes of %.500x: %d events, %d bytes, %d; want %d, %d", n, b, len(s.Events), m, errno, events, taken)
			}
			if _, errno := Decode(b[:n]); errno != api.ErrRecord {
				t.Fatalf("P25.2: the first %d bytes of %.500x: %d", n, b, errno)
			}
		}
		for _, more := range []string{"\x00", b, b[2:], framed("\x01\x01\x00\x00"), g.bytes(30)} {
			if s, m, errno := Salvage(b + more); !same(s, r) || m != len(b) || errno != api.OK {
				t.Fatalf("P25.3: %.500x with %.500x behind it: %s, %d, %d", b, more, brief(s), m, errno)
			}
			if _, errno := Decode(b + more); more != "" && errno != api.ErrRecord {
				t.Fatalf("P25.2: %.500x with %.500x behind it: %d", b, more, errno)
			}
		}
	}
}

// P25.3, P25.6: sums that end in zeros: a byte of a sum that lacks is not one that is 0.
func TestZeroSums(t *testing.T) {
	zeros := map[int]int{}
	for n := range 1 << 18 {
		output := strconv.Itoa(n)
		last := framed("\x02\x00\x00\x00\x00\x00\x00\x00\x01" + output)
		count := len(last) - len(strings.TrimRight(last, "\x00"))
		if count == 0 || zeros[count] > 50 {
			continue
		}
		zeros[count]++
		ahead := "R\x01" + framed("\x01\x01\x00\x00")
		for lacking := range count + 1 {
			if s := asks(t, (ahead + last)[:len(ahead+last)-lacking]); s.last != (lacking == 0) {
				t.Fatalf("P25.6: %x without its last %d bytes: %+v", ahead+last, lacking, s)
			}
		}
	}
	if zeros[1] < 50 || zeros[2] == 0 {
		t.Errorf("sums that end in zeros: %v", zeros)
	}
}

// P25.7: one byte of a body or a sum is another: just the events of the chunks ahead. One of a length: P25.3.
func TestSpoilt(t *testing.T) {
	for seed := range seeds(12) {
		g := newGrower(5e6 + seed)
		r := g.record(1 + g.Intn(2) + 64*g.Intn(3))
		b := lays(t, r)
		for _, c := range piecesOf(t, b, len(r.Events)) {
			for at := c.from; at < c.to; at++ {
				others := []int{1 + g.Intn(255), 1 << g.Intn(8)}
				if at < c.from+4 || seed == 0 && !testing.Short() {
					others = nil
					for other := 1; other < 256; other++ {
						others = append(others, other)
					}
				}
				for _, other := range others {
					spoilt := b[:at] + string([]byte{b[at] ^ byte(other)}) + b[at+1:]
					if at < c.from+4 {
						asks(t, spoilt)
						continue
					}
					s, n, errno := Salvage(spoilt)
					if !same(s, of(r.Events[:c.events]...)) || n != c.from || errno != api.OK {
						t.Fatalf("P25.7: with another byte at %d: %d events, %v, %q, %d; %d, %d; want %d, %d", at, len(s.Events), s.Outcome, s.Output, s.Input, n, errno, c.events, c.from)
					}
					if _, errno := Decode(spoilt); errno != api.ErrRecord {
						t.Fatalf("P25.2: with another byte at %d: %d", at, errno)
					}
				}
			}
		}
	}
}
