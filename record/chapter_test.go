package record

import (
	"hash/crc32"
	"strings"
	"testing"

	"retrace/api"
)

func number(n int64) api.Value { return api.Value{Kind: api.ValInt, Int: n} }

func text(s string) api.Value { return api.Value{Kind: api.ValText, Text: s} }

func truth(n int64) api.Value { return api.Value{Kind: api.ValBool, Int: n} }

func reference(n int64) api.Value { return api.Value{Kind: api.ValRef, Int: n} }

func of(list ...api.Event) api.Record { return api.Record{Events: list} }

// example is the record of the second row of the chapter's table.
func example() api.Record {
	return api.Record{Outcome: api.Outcome{Phase: api.Ended}, Output: "6\n", Input: 1, Events: []api.Event{
		{Kind: api.EvCall, Node: 1, Name: "main"},
		{Kind: api.EvStmt, Node: 4},
		{Kind: api.EvSet, Node: 4, Name: "x", Value: number(-3)},
		{Kind: api.EvTouch, Node: 4, Name: "x", Value: reference(2)},
	}}
}

// lastOfOne is the last chunk of a record that has one event and nothing else.
const lastOfOne = "\x00\x00\x00\x09\x02\x00\x00\x00\x00\x00\x00\x00\x01\xaa\x90\x75\x58"

// P25.1, P25.2: the chapter's examples, byte by byte, the sums too.
func TestFiles(t *testing.T) {
	for _, row := range []struct {
		record api.Record
		chunks string
	}{
		{api.Record{}, "\x00\x00\x00\x09\x02\x00\x00\x00\x00\x00\x00\x00\x00\xdd\x97\x45\xce"},
		{example(), "\x00\x00\x00\x16\x01\x04\x02\x01\x04main\x01\x06\x00\x17\x00\x02\x01x\x05\x48\x00\x02\x02\x6b\xfb\xf2\x1f\x00\x00\x00\x0b\x02\x01\x00\x00\x01\x00\x00\x00\x046\n\xd9\x58\xae\x15"},
		{of(api.Event{Kind: api.EvReturn, Node: 5}), "\x00\x00\x00\x04\x01\x06\x0a\x00\xd6\x7c\x8a\xf4" + lastOfOne},
		{of(api.Event{Kind: api.EvReturn, Node: 5, Value: text("ab")}), "\x00\x00\x00\x07\x01\x36\x0a\x00\x02ab\x83\x78\xc1\xac" + lastOfOne},
		{of(api.Event{Kind: api.EvReturn, Node: 5, Value: truth(1)}), "\x00\x00\x00\x05\x01\x26\x0a\x00\x01\x74\x6d\xe9\x0f" + lastOfOne},
	} {
		want := "\x52\x01" + row.chunks
		if b := lays(t, row.record); b != want {
			t.Errorf("P25.1: the file of %+v is %x, want %x", row.record, b, want)
		}
		if s := asks(t, want); !same(s.record, row.record) {
			t.Errorf("P25.2: %x: %+v, want %+v", want, s.record, row.record)
		}
	}
}

// P25.1: the sum that the chapter tells, and those of many other bytes.
func TestSums(t *testing.T) {
	if got := sum("123456789"); got != 0xcbf43926 {
		t.Errorf("%08x", got)
	}
	if got := sum(""); got != 0 {
		t.Errorf("%08x", got)
	}
	b := []byte{}
	for n := range 3000 {
		b = append(b, byte(n*n>>3^n))
		if got, want := sum(string(b)), crc32.ChecksumIEEE(b); got != want {
			t.Fatalf("%x: %08x, want %08x", b, got, want)
		}
	}
	for n := range 1 << 16 {
		b := []byte{byte(n), byte(n >> 8)}
		if got, want := sum(string(b)), crc32.ChecksumIEEE(b); got != want {
			t.Fatalf("%x: %08x, want %08x", b, got, want)
		}
	}
}

// numbered are so many events, all of which differ.
func numbered(count int) []api.Event {
	list := make([]api.Event, count)
	for n := range list {
		list[n] = api.Event{Kind: api.EvSet, Node: n * 7 % 50, Name: "abcde"[n%5 : n%5+1], Value: number(int64(n))}
	}
	return list
}

// P25.1: 65 events are two events' chunks; each chunk begins its names and nodes anew.
func TestTwoChunks(t *testing.T) {
	var list []api.Event
	for range 65 {
		list = append(list, api.Event{Kind: api.EvSet, Node: 3, Name: "x", Value: number(-1)})
	}
	first := "\x01\x17\x06\x01\x01x\x01" + strings.Repeat("\x17\x00\x01\x01", 63)
	want := "R\x01" + framed(first) + framed("\x01\x17\x06\x01\x01x\x01") + framed("\x02\x00\x00\x00\x00\x00\x00\x00\x41")
	if b := lays(t, of(list...)); b != want {
		t.Errorf("P25.1: %x, want %x", b, want)
	}
	want = "R\x01" + framed(first) + framed("\x02\x00\x00\x00\x00\x00\x00\x00\x40")
	if b := lays(t, of(list[:64]...)); b != want {
		t.Errorf("P25.1: %x, want %x", b, want)
	}
}

// P25.1: numbers of all lengths, as the chapter's words write them.
func TestNumbersLaid(t *testing.T) {
	for want, n := range map[string]int64{
		"\x00": 0, "\x01": -1, "\x02": 1, "\x7f": -64, "\x7e": 63, "\x80\x01": 64, "\x81\x01": -65, "\xff\x7f": -8192, "\x80\x80\x01": 8192,
		"\xff\xff\xff\xff\xff\xff\xff\xff\xff\x01": -1 << 63, "\xfe\xff\xff\xff\xff\xff\xff\xff\xff\x01": 1<<63 - 1,
		"\xff\xff\xff\xff\xff\xff\xff\xff\x7f": -1 << 62, "\x80\x80\x80\x80\x80\x80\x80\x80\x80\x01": 1 << 62,
	} {
		file := "R\x01" + framed("\x01\x16\x00\x00"+want) + lastOfOne
		if b := lays(t, of(api.Event{Kind: api.EvReturn, Value: number(n)})); b != file {
			t.Errorf("P25.1: %d is laid as %x, want %x", n, b, file)
		}
	}
	for want, n := range map[string]int64{
		"\x00": 0, "\x01": 1, "\x7f": 127, "\x80\x01": 128, "\xff\x7f": 16383, "\x80\x80\x01": 16384, "\xff\xff\xff\xff\xff\xff\xff\xff\x7f": 1<<63 - 1,
	} {
		file := "R\x01" + framed("\x01\x46\x00\x00"+want) + lastOfOne
		if b := lays(t, of(api.Event{Kind: api.EvReturn, Value: reference(n)})); b != file {
			t.Errorf("P25.1: the array %d is laid as %x, want %x", n, b, file)
		}
	}
}

// P25.3: the chapter's examples.
func TestSalvageExamples(t *testing.T) {
	r := api.Record{Outcome: api.Outcome{Phase: api.Trapped, Trap: api.TrapIndex}, Output: "out", Input: 7, Events: numbered(130)}
	b := lays(t, r)
	chunks := piecesOf(t, b, 130)
	for n := chunks[2].from; n < len(b); n++ {
		want, taken := of(r.Events[:128]...), chunks[2].from
		if n >= chunks[3].from {
			want, taken = of(r.Events...), chunks[3].from
		}
		if s, m, errno := Salvage(b[:n]); !same(s, want) || m != taken || errno != api.OK {
			t.Fatalf("P25.3: of %d bytes: %d events, %v, %q, %d; %d, %d", n, len(s.Events), s.Outcome, s.Output, s.Input, m, errno)
		}
	}
	for b, want := range map[string]salvaged{"R\x01": {taken: 2}, "R": {errno: api.ErrRecord}, "R\x02": {errno: api.ErrRecord}, "": {errno: api.ErrRecord}, "\x01R": {errno: api.ErrRecord}, "r\x01": {errno: api.ErrRecord}, "R\x00": {errno: api.ErrRecord}} {
		if s, n, errno := Salvage(b); !same(s, api.Record{}) || n != want.taken || errno != want.errno {
			t.Errorf("P25.3: Salvage(%x) = %+v, %d, %d", b, s, n, errno)
		}
		if r, errno := Decode(b); !same(r, api.Record{}) || errno != api.ErrRecord {
			t.Errorf("P25.2: Decode(%x) = %+v, %d", b, r, errno)
		}
	}
}

// P25.4: the chapter's examples.
func TestOfExamples(t *testing.T) {
	source := "fn main() { print 1; }"
	three := []api.Event{{Kind: api.EvCall, Node: 1, Name: "main"}, {Kind: api.EvStmt, Node: 3}, {Kind: api.EvLeave, Node: 1}}
	r, problem := Of(source, nil, enough, 100)
	if want := (api.Record{Outcome: api.Outcome{Phase: api.Ended}, Output: "1\n", Events: three}); problem != (api.Problem{}) || !same(r, want) {
		t.Errorf("P25.4: %+v, %+v", r, problem)
	}
	if r, problem := Of(source, nil, enough, 2); problem != (api.Problem{}) || !same(r, of(three[:2]...)) {
		t.Errorf("P25.4: %+v, %+v", r, problem)
	}
	if r, problem := Of(source, nil, enough, 1000001); problem != (api.Problem{Code: api.ErrSize}) || !same(r, api.Record{}) {
		t.Errorf("P25.4: %+v, %+v", r, problem)
	}
	if r, problem := Of("x", nil, enough, 100); problem != (api.Problem{Code: api.ErrToken}) || !same(r, api.Record{}) {
		t.Errorf("P25.4: %+v, %+v", r, problem)
	}
}
