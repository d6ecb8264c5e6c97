package record

import (
	"iter"
	"strconv"
	"testing"

	"retrace/api"
)

// texts are all of up to so many bytes of an alphabet.
func texts(alphabet string, most int) iter.Seq[string] {
	return func(yield func(string) bool) {
		all := []string{""}
		for length := 0; ; length++ {
			for _, s := range all {
				if !yield(s) {
					return
				}
			}
			if length == most {
				return
			}
			var longer []string
			for _, s := range all {
				for n := range len(alphabet) {
					longer = append(longer, s+alphabet[n:n+1])
				}
			}
			all = longer
		}
	}
}

// bytesFrom are so many bytes, one behind the other.
func bytesFrom(first, count int) string {
	b := make([]byte, count)
	for n := range b {
		b[n] = byte(first + n)
	}
	return string(b)
}

// alone asks for a body as that of a file's only events' chunk, or of its last one; behind it, if it is right, the last chunk that fits and one that does not.
func alone(t *testing.T, body string) int {
	t.Helper()
	b := "R\x01" + framed(body)
	s := asks(t, b)
	for _, count := range []int{len(s.record.Events), len(s.record.Events) + 1} {
		asks(t, b+framed(wantedLast(of(make([]api.Event, count)...))))
	}
	return len(s.record.Events)
}

// P25.2, P25.3: all short bodies.
func TestEveryBody(t *testing.T) {
	most := 5
	if testing.Short() {
		most = 3
	}
	taken := map[int]int{}
	short := "\x00\x01\x02\x03\x16\x24\x31\x48\x09\x51\x7f\x80\xff"
	for s := range texts(short, most) {
		taken[alone(t, s)]++
		taken[alone(t, "\x01"+s)]++
	}
	// Behind a first event with the name a, at node 1.
	for s := range texts(short, most) {
		taken[alone(t, "\x01\x01\x02\x01\x01a"+s)]++
	}
	for n, want := range []int{1000, 10, 3} {
		if taken[n] < want {
			t.Errorf("%d bodies with %d events", taken[n], n)
		}
	}
}

// P25.2, P25.3: all first bytes of an event and all bytes behind it.
func TestEveryFirst(t *testing.T) {
	for s := range texts(bytesFrom(0, 256), 2) {
		for _, more := range []string{"", "\x00", "\x00\x00", "\x00\x01", "\x00\x02", "\x00\x01\x01", "\x01\x00", "\x01\x01a", "\x01\x01a\x00", "\x00\x81\x00", "\x00\x81\x01"} {
			alone(t, "\x01"+s+more)
		}
		if testing.Short() && len(s) == 2 && s[1] == 20 {
			break
		}
	}
}

// P25.2, P25.3: all last chunks that differ from one that is right in two bytes of their head.
func TestEveryLast(t *testing.T) {
	counts := []int{0, 1, 64, 65, 256}
	if testing.Short() {
		counts = []int{0, 65}
	}
	for _, count := range counts {
		r := api.Record{Outcome: api.Outcome{Phase: api.Trapped, Trap: api.TrapInput}, Output: "o", Input: 3, Events: numbered(count)}
		b := lays(t, r)
		chunks := piecesOf(t, b, count)
		ahead, body := b[:chunks[len(chunks)-1].from], wantedLast(r)
		for n := range 10 {
			asks(t, ahead+framed(body[:n]+body[10:]))
			asks(t, ahead+framed(body[:n]))
			for m := range n + 1 {
				for one := range 256 {
					for _, other := range []int{0, 1, 2, 7, 8, 0xe8, 0xe9} {
						if count > 1 && (one > 9 && one != int(body[n])) || m == n && other > 0 {
							continue
						}
						spoilt := []byte(body)
						spoilt[m] = byte(other)
						spoilt[n] = byte(one)
						asks(t, ahead+framed(string(spoilt)))
					}
				}
			}
		}
	}
}

// P25.2, P25.3: all phases with all traps, and all numbers read.
func TestEveryEnd(t *testing.T) {
	for phase := range 256 {
		for trap := range 256 {
			r := api.Record{Outcome: api.Outcome{Phase: api.Phase(phase), Trap: api.Trap(trap)}}
			asks(t, "R\x01"+framed(wantedLast(r)))
			lays(t, r)
		}
	}
	for input := range 1 << 16 {
		r := api.Record{Outcome: api.Outcome{Phase: api.Ended}, Input: input}
		asks(t, "R\x01"+framed(wantedLast(r)))
		lays(t, r)
		lays(t, api.Record{Input: -input})
	}
}

// P25.3: chunks of few and many events, and last chunks, in any order.
func TestEveryOrder(t *testing.T) {
	var chunks []string
	for _, count := range []int{0, 1, 2, 63, 64, 65} {
		chunks = append(chunks, framed(wantedEvents(numbered(count))))
	}
	for _, count := range []int{0, 1, 64, 65, 127, 128, 130} {
		chunks = append(chunks, framed(wantedLast(of(numbered(count)...))))
	}
	most := 4
	if testing.Short() {
		most = 3
	}
	all := 0
	for order := range texts(bytesFrom(0, len(chunks)), most) {
		b := "R\x01"
		for n := range len(order) {
			b += chunks[order[n]]
		}
		if s := asks(t, b); s.taken == len(b) {
			all++
		}
	}
	if all < 10 {
		t.Errorf("%d were right", all)
	}
}

// P25.5: two records have never one file.
func TestOwnFile(t *testing.T) {
	values := []api.Value{{}, number(0), number(1), number(-1), truth(0), truth(1), text(""), text("\x00"), text("a"), reference(0), reference(1)}
	var list []api.Event
	for _, v := range values {
		for _, name := range []string{"", "a", "\x00"} {
			for node := range 2 {
				list = append(list, api.Event{Kind: api.EvStmt, Node: node, Name: name, Value: v}, api.Event{Kind: api.EvTouch, Node: node, Name: name, Value: v})
			}
		}
	}
	files := map[string]string{}
	tells := func(what string, r api.Record) {
		b := lays(t, r)
		if other, known := files[b]; known || b == "" {
			t.Fatalf("P25.5: %s and %s have one file: %x", what, other, b)
		}
		files[b] = what
	}
	for n, one := range list {
		tells(strconv.Itoa(n), of(one))
		for m, other := range list {
			tells(strconv.Itoa(n)+" and "+strconv.Itoa(m), of(one, other))
		}
	}
	for _, o := range outcomes {
		for input := range 3 {
			for _, output := range []string{"", "a", "\x00", "\n"} {
				if r := (api.Record{Outcome: o, Input: input, Output: output}); !same(r, api.Record{}) {
					tells("an end", r)
				}
			}
		}
	}
}
