package events

import (
	"math"
	"slices"
	"strings"
	"testing"

	"retrace/api"
	"retrace/value"
)

// someValues are values that may be and such that may not, of each kind, those at the edges among them.
func someValues() []api.Value {
	var list []api.Value
	for kind := api.ValueKind(-1); kind <= 6; kind++ {
		for _, n := range []int64{0, 1, 2, -1, 5, math.MaxInt64, math.MinInt64} {
			for _, length := range []int{0, 1, 200, 255, 256, 257, 1000} {
				list = append(list, api.Value{Kind: kind, Int: n, Text: strings.Repeat("t", length)})
			}
		}
	}
	return list
}

// wantRead is P17.1, sentence by sentence.
func wantRead(table []api.Hook, y api.Yield) (api.Event, api.Errno) {
	refused := y.Hook < 1 || y.Hook > len(table)
	row := api.Hook{}
	if !refused {
		row = table[y.Hook-1]
	}
	isOne := func(kinds ...api.EventKind) bool { return slices.Contains(kinds, row.Kind) }
	refused = refused || row.Kind < 1 || row.Kind > 8
	refused = refused || isOne(api.EvSet, api.EvTouch) && !y.Has
	refused = refused || !isOne(api.EvSet, api.EvTouch, api.EvReturn) && y.Has
	refused = refused || !y.Has && y.Value != api.Value{}
	refused = refused || y.Has && (y.Value.Kind == api.ValNone || !value.Valid(y.Value))
	if refused {
		return api.Event{}, api.ErrRow
	}
	return api.Event{Kind: row.Kind, Node: row.Node, Name: row.Name, Value: y.Value}, api.OK
}

func reads(t *testing.T, table []api.Hook, y api.Yield) api.Errno {
	t.Helper()
	want, wanted := wantRead(table, y)
	got, errno := Read(table, y)
	if got != want || errno != wanted {
		t.Fatalf("Read(%v, %v) = %v, %d, want %v, %d", table, y, got, errno, want, wanted)
	}
	return errno
}

// P17.1: each kind of row with each value, there or not.
func TestReadKinds(t *testing.T) {
	taken := map[api.EventKind]int{}
	for kind := api.EventKind(-2); kind <= 11; kind++ {
		table := []api.Hook{{Kind: kind, Node: 7, Name: "name"}}
		for _, v := range someValues() {
			for _, has := range []bool{false, true} {
				if reads(t, table, api.Yield{Hook: 1, Has: has, Value: v}) == api.OK {
					taken[kind]++
				}
			}
		}
	}
	// Of the values seven ints, two bools, five texts and five references may be.
	for kind, want := range []int{0, 1, 1, 1, 1, 1, 20, 19, 19, 0} {
		if taken[api.EventKind(kind)] != want {
			t.Errorf("rows of the kind %d took %d yields, want %d", kind, taken[api.EventKind(kind)], want)
		}
	}
}

// P17.1: the row with the number n is the n-th one, and there are no others.
func TestReadRows(t *testing.T) {
	for count := range 6 {
		var table []api.Hook
		for n := range count {
			table = append(table, api.Hook{Kind: api.EvStmt + api.EventKind(n%5), Node: 100 + n, Name: strings.Repeat("n", n)})
		}
		// What lies behind the rows is none.
		table = append(table, api.Hook{Kind: api.EvStmt, Node: 9})[:count]
		for _, hook := range []int{math.MinInt, math.MinInt + 1, -1 << 32, -2, -1, 0, 1, 2, 3, 4, 5, 6, 7, 1<<32 + 1, math.MaxInt - 1, math.MaxInt} {
			errno := reads(t, table, api.Yield{Hook: hook})
			if (errno == api.OK) != (1 <= hook && hook <= count) {
				t.Errorf("row %d of %d: %d", hook, count, errno)
			}
		}
	}
	reads(t, nil, api.Yield{Hook: 1})
	reads(t, []api.Hook{}, api.Yield{Hook: 1, Has: true, Value: i(1)})
}

// P17.1: Node and Name are the row's, whatever they are.
func TestReadTells(t *testing.T) {
	for _, node := range []int{math.MinInt, -1, 0, 1, 39999, math.MaxInt} {
		for _, name := range []string{"", "x", "\x00\xff", strings.Repeat("long", 1000)} {
			for kind := api.EvStmt; kind <= api.EvTouch; kind++ {
				table := []api.Hook{{}, {Kind: kind, Node: node, Name: name}}
				for _, v := range []api.Value{{}, i(math.MinInt64), b(1), x(strings.Repeat("\xff", 256)), r(0), r(math.MaxInt64)} {
					reads(t, table, api.Yield{Hook: 2, Has: v != api.Value{}, Value: v})
				}
			}
		}
	}
}

// P17.1, P17.9: any tables and yields.
func TestReadGrown(t *testing.T) {
	all := someValues()
	errnos := map[api.Errno]int{}
	for seed := range seeds(20000) {
		g := newRand(seed)
		table := make([]api.Hook, g.Intn(5))
		for n := range table {
			table[n] = api.Hook{Kind: api.EventKind(g.Intn(11) - 1), Node: g.Intn(50), Name: []string{"", "x", "main"}[g.Intn(3)]}
		}
		for range 20 {
			y := api.Yield{Hook: g.Intn(len(table)+2) - g.Intn(2), Has: g.Intn(2) == 0}
			if g.Intn(3) > 0 {
				y.Value = all[g.Intn(len(all))]
			}
			errnos[reads(t, table, y)]++
		}
	}
	if errnos[api.OK] < int(seeds(1000)) || errnos[api.ErrRow] < int(seeds(1000)) || len(errnos) != 2 {
		t.Errorf("%v", errnos)
	}
}
