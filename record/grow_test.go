package record

import (
	"encoding/binary"
	"math"
	"math/rand"
	"strings"
	"testing"

	"retrace/api"
)

// grower makes records that may be, and spoils them and their bytes.
type grower struct{ *rand.Rand }

func newGrower(seed int64) *grower { return &grower{rand.New(rand.NewSource(seed))} }

// seeds tells how many things are grown.
func seeds(all int64) int64 {
	if testing.Short() {
		return all / 20
	}
	return all
}

func (g *grower) bytes(most int) string {
	b := make([]byte, g.Intn(most+1))
	g.Read(b)
	return string(b)
}

func (g *grower) name() string {
	switch g.Intn(8) {
	case 0, 1:
		return ""
	case 2:
		return g.bytes(api.MaxName)
	case 3:
		return strings.Repeat("n", g.Intn(api.MaxName+1))
	case 4:
		return "x" + string(rune('a'+g.Intn(26)))
	}
	return []string{"x", "y", "main", "count", "\x00", "\xff"}[g.Intn(6)]
}

// edge is a number near one at which something changes.
func (g *grower) edge() int64 {
	if g.Intn(3) == 0 {
		return int64(g.Uint64())
	}
	n := int64(1)<<g.Intn(64) + int64(g.Intn(3)) - 1
	if g.Intn(2) == 0 {
		return -n
	}
	return n
}

func (g *grower) value() api.Value {
	switch g.Intn(6) {
	case 0:
		return number(int64(g.Intn(9) - 4))
	case 1:
		return number(g.edge())
	case 2:
		return truth(int64(g.Intn(2)))
	case 3:
		return text(g.bytes([]int{0, 2, 130, api.MaxText}[g.Intn(4)]))
	case 4:
		return reference(g.edge() & math.MaxInt64)
	}
	return api.Value{}
}

func (g *grower) event() api.Event {
	node := g.Intn(20)
	if g.Intn(6) == 0 {
		node = []int{g.Intn(api.MaxTree), api.MaxTree - 1, 63, 64, 127, 128, 8191, 8192}[g.Intn(8)]
	}
	return api.Event{Kind: api.EventKind(1 + g.Intn(8)), Node: node, Name: g.name(), Value: g.value()}
}

// count is how many events a record is to have.
func (g *grower) count() int {
	return []int{0, 1, 2, g.Intn(10), g.Intn(64), 63, 64, 65, 127, 128, 129, g.Intn(300)}[g.Intn(12)]
}

func (g *grower) record(events int) api.Record {
	r := api.Record{Outcome: outcomes[g.Intn(len(outcomes))], Output: g.bytes(g.Intn(40)), Input: []int{0, 1, 255, 256, 999, 1000, g.Intn(1001)}[g.Intn(7)]}
	for range events {
		r.Events = append(r.Events, g.event())
	}
	// Now and then each event has a name of its own, or all but one have the same.
	switch g.Intn(6) {
	case 0:
		for n := range r.Events {
			r.Events[n].Name = "n" + string(rune(n))
		}
	case 1:
		for n := range r.Events {
			r.Events[n].Name = "one"
		}
		if events > 0 {
			r.Events[g.Intn(events)].Name = "other"
		}
	}
	return r
}

// spoilt is a record of which one thing is another one, which mostly may not be.
func (g *grower) spoilt(r api.Record) api.Record {
	odd := []int{-1, 0, 1, 2, 3, 4, 5, 7, 8, 9, 24, 999, 1000, 1001, 39999, 40000, 65536, 1 << 20, math.MaxInt, math.MinInt}
	n := odd[g.Intn(len(odd))]
	if len(r.Events) > 0 && g.Intn(3) > 0 {
		e := &r.Events[g.Intn(len(r.Events))]
		switch g.Intn(7) {
		case 0:
			e.Kind = api.EventKind(n)
		case 1:
			e.Node = n
		case 2:
			e.Name = strings.Repeat("w", api.MaxName-1+g.Intn(4))
		case 3:
			e.Value.Kind = api.ValueKind(n)
		case 4:
			e.Value.Int = int64(n)
		case 5:
			e.Value.Text = strings.Repeat("w", []int{0, 1, 256, 257, 300}[g.Intn(5)])
		case 6:
			e.Value = api.Value{Kind: api.ValueKind(g.Intn(7) - 1), Int: int64(n), Text: g.bytes(1)}
		}
		return r
	}
	switch g.Intn(4) {
	case 0:
		r.Outcome.Phase = api.Phase(n)
	case 1:
		r.Outcome.Trap = api.Trap(n)
	case 2:
		r.Outcome = api.Outcome{Phase: api.Phase(g.Intn(5) - 1), Trap: api.Trap(g.Intn(11) - 1)}
	case 3:
		r.Input = n
	}
	return r
}

// bodiesIn are the bodies of a file that is whole.
func bodiesIn(b string) []string {
	var all []string
	for at := 2; at < len(b); {
		end := at + 4 + int(binary.BigEndian.Uint32([]byte(b[at:])))
		all = append(all, b[at+4:end])
		at = end + 4
	}
	return all
}

// joined is a file of these bodies, each with its length and sum.
func joined(bodies []string) string {
	b := "R\x01"
	for _, body := range bodies {
		b += framed(body)
	}
	return b
}

// changed is a text with one place of it changed in any way.
func (g *grower) changed(s string) string {
	at := g.Intn(len(s) + 1)
	small := string([]byte{byte(g.Intn(4))})
	if g.Intn(2) == 0 {
		small = string([]byte{byte(g.Intn(256))})
	}
	if at == len(s) {
		return s + small
	}
	switch g.Intn(5) {
	case 0:
		return s[:at] + s[at+1:]
	case 1:
		return s[:at] + small + s[at:]
	case 2:
		return s[:at] + string([]byte{s[at] ^ 1<<g.Intn(8)}) + s[at+1:]
	case 3:
		end := at + g.Intn(len(s)-at+1)
		return s[:end] + s[at:]
	}
	return s[:at] + small + s[at+1:]
}

// rebuilt is a file whose chunks are changed, dropped, doubled, moved, or taken from another file, with sums that are right.
func (g *grower) rebuilt(one, other string) string {
	bodies := bodiesIn(one)
	foreign := bodiesIn(other)
	for range 1 + g.Intn(2) {
		n := g.Intn(len(bodies))
		switch g.Intn(8) {
		case 0:
			bodies = append(bodies[:n], bodies[n+1:]...)
			if len(bodies) == 0 {
				return "R\x01"
			}
		case 1:
			bodies = append(bodies, bodies[n])
		case 2:
			m := g.Intn(len(bodies))
			bodies[n], bodies[m] = bodies[m], bodies[n]
		case 3:
			bodies[n] = foreign[g.Intn(len(foreign))]
		default:
			bodies[n] = g.changed(bodies[n])
		}
	}
	return joined(bodies)
}
