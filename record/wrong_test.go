package record

import (
	"math/rand"
	"reflect"
	"strings"
	"testing"
	"testing/quick"

	"retrace/api"
)

// P25.8: any bytes.
func TestAnyBytes(t *testing.T) {
	g := newGrower(7)
	for n := range seeds(40000) {
		b := g.bytes(60)
		asks(t, b)
		asks(t, "R\x01"+b)
		asks(t, "R\x01"+framed(b))
		asks(t, "R\x01"+framed("\x01"+b))
		asks(t, "R\x01"+framed("\x02"+b))
		asks(t, "R\x01"+framed(wantedEvents(numbered(int(n%66))))+framed("\x01"+b))
	}
	for length := range 300 {
		for _, b := range []string{"\x00", "\x01", "R", "R\x01", "\x7f", "\x80", "\xff"} {
			asks(t, strings.Repeat(b, length))
			asks(t, "R\x01"+framed(strings.Repeat(b, length)))
			asks(t, "R\x01"+framed("\x01"+strings.Repeat(b, length)))
		}
	}
}

// P25.8, P25.1: any records.
func TestAnyRecords(t *testing.T) {
	config := &quick.Config{MaxCount: int(seeds(4000)), Rand: rand.New(rand.NewSource(8))}
	err := quick.Check(func(r api.Record, kinds []uint8) bool {
		lays(t, r)
		// As good as none of these may be: some that mostly may.
		for n, kind := range kinds {
			if n < len(r.Events) {
				e := &r.Events[n]
				e.Kind, e.Node, e.Value.Kind = api.EventKind(kind%8+1), int(kind), api.ValueKind(kind/8%5)
				e.Name = e.Name[:min(len(e.Name), 24)]
				if kind > 30 && e.Value.Kind != api.ValText {
					e.Value.Text = ""
				}
			}
		}
		r.Outcome, r.Input = api.Outcome{}, r.Input&511
		lays(t, r)
		return true
	}, config)
	if err != nil {
		t.Error(err)
	}
}

// With an error all other results are zero.
func TestNothingElse(t *testing.T) {
	for _, b := range []string{"", "R", "R\x01", "R\x02" + lastOfOne, "R\x01" + framed("\x01\x01\x00\x00"), "R\x01" + framed("\x01\x01\x00\x00") + lastOfOne + "\x00"} {
		if r, errno := Decode(b); !reflect.DeepEqual(r, api.Record{}) || errno != api.ErrRecord {
			t.Errorf("Decode(%x) = %+v, %d", b, r, errno)
		}
	}
	if r, n, errno := Salvage("R\x02" + lastOfOne); !reflect.DeepEqual(r, api.Record{}) || n != 0 || errno != api.ErrRecord {
		t.Errorf("%+v, %d, %d", r, n, errno)
	}
	for _, l := range []api.Limits{{}, enough} {
		if r, problem := Of("fn main() { print 1", nil, l, 5); !reflect.DeepEqual(r, api.Record{}) || problem.Code != api.ErrToken {
			t.Errorf("%+v, %+v", r, problem)
		}
	}
}
