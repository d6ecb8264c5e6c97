package points

import (
	"math"
	"testing"

	"retrace/api"
)

// everyList are all lists of at most so many nodes, made of functions of two names, parameters and blocks.
func everyList(length int) [][]api.Node {
	parts := []api.Node{{Kind: api.KFunc, Name: "f"}, {Kind: api.KFunc, Name: "g", At: 2}, {Kind: api.KParam, Name: "f", At: 4}, {Kind: api.KBlock, Name: "f", At: 6}}
	lists := [][]api.Node{nil}
	for begin, n := 0, 0; n < length; n++ {
		end := len(lists)
		for _, list := range lists[begin:end] {
			for _, part := range parts {
				lists = append(lists, append(list[:len(list):len(list)], part))
			}
		}
		begin = end
	}
	return lists
}

// singles are tables with one point each: the number that Match tells is 1, if it is met.
func singles(t *testing.T, list []api.Point) []*Table {
	tables := make([]*Table, len(list))
	for n, p := range list {
		tables[n] = of(t, p)
	}
	return tables
}

// P20.3, P20.4: every event, of every kind and of none, at every node of every short list of nodes, trees or not.
func TestEveryEvent(t *testing.T) {
	list := []api.Point{onLine(1, ""), onLine(2, ""), onLine(3, ""), onLine(4, ""), onLine(5, ""), onCall("f", ""), onCall("g", ""), onChange("f", ""), onChange("g", "")}
	tables := singles(t, list)
	met := make([]int, len(list))
	for _, nodes := range everyList(4) {
		p := api.Program{Text: "\n\n..\n\n", Tree: api.Tree{Nodes: nodes}}
		for kind := api.EventKind(-1); kind <= 10; kind++ {
			for node := -2; node <= len(nodes)+1; node++ {
				for _, name := range []string{"", "f", "g"} {
					e := api.Event{Kind: kind, Node: node, Name: name}
					for n, point := range list {
						want := 0
						if meetsPlainly(point, p, e, nil, nil) {
							want = 1
							met[n]++
						}
						if got := tables[n].Match(p, e, nil, nil); got != want {
							t.Fatalf("point %+v, event %+v, nodes %+v: %d, want %d", point, e, nodes, got, want)
						}
					}
				}
			}
		}
	}
	for n, count := range met {
		// Of the five lines only the odd ones have a node that begins there.
		if line := list[n].Line; (count == 0) != (line == 2 || line == 4) {
			t.Errorf("point %+v is met %d times", list[n], count)
		}
	}
}

// P20.3: a node begins where its At is, if that is an offset of the text, its end included.
func TestEveryPlace(t *testing.T) {
	list := make([]api.Point, 8)
	for n := range list {
		list[n] = onLine(n+1, "")
	}
	tables := singles(t, list)
	for _, text := range []string{"", "\n", "ab", "a\nb", "\n\n\n", "a\r\nb\r\n", "fn f() {\n\n\tf();\n}\n", "\x00\xff\n\u2028\n\v\f"} {
		for at := -3; at <= len(text)+3; at++ {
			p := api.Program{Text: text, Tree: api.Tree{Nodes: []api.Node{{Kind: api.KProgram}, {Kind: api.KDo, At: at}}}}
			e := api.Event{Kind: api.EvStmt, Node: 1}
			for n, table := range tables {
				want := 0
				if meetsPlainly(list[n], p, e, nil, nil) {
					want = 1
				}
				if got := table.Match(p, e, nil, nil); got != want {
					t.Errorf("line %d of %q, a node at %d: %d, want %d", n+1, text, at, got, want)
				}
			}
		}
	}
}

// P20.4, P20.6: numbers that no program, and no text, has.
func TestFarNumbers(t *testing.T) {
	far := []int{math.MinInt, math.MinInt + 1, -1 << 32, -1, 0, 1, 2, 3, 1 << 31, 1 << 32, 1<<32 + 1, math.MaxInt - 1, math.MaxInt}
	list := []api.Point{onLine(1, ""), onLine(math.MaxInt, ""), onLine(1<<32+1, ""), onCall("f", ""), onChange("f", "")}
	tables := singles(t, list)
	for _, kind := range far {
		for _, node := range far {
			for _, at := range far {
				p := api.Program{Text: "f", Tree: api.Tree{Nodes: []api.Node{{Kind: api.KParam, At: at}, {Kind: api.KFunc, Name: "f", At: at}}}}
				for _, e := range []api.EventKind{api.EventKind(kind), api.EvStmt, api.EvCall, api.EvSet, api.EvTouch} {
					event := api.Event{Kind: e, Node: node, Name: "f", Value: api.Value{Kind: api.ValueKind(kind), Int: int64(at)}}
					for n, table := range tables {
						want := 0
						if meetsPlainly(list[n], p, event, nil, nil) {
							want = 1
						}
						if got := table.Match(p, event, nil, nil); got != want {
							t.Fatalf("point %+v, event %+v at %d: %d, want %d", list[n], event, at, got, want)
						}
					}
				}
			}
		}
	}
	table := of(t, list...)
	for _, n := range far {
		there := n >= 1 && n <= len(list)
		if _, errno := table.Get(n); (errno == api.OK) != there {
			t.Errorf("Get(%d): %d", n, errno)
		}
		if errno := table.Turn(n, false); (errno == api.OK) != there {
			t.Errorf("Turn(%d): %d", n, errno)
		}
	}
	for _, n := range far {
		there := n >= 1 && n <= len(list)
		if errno := table.Delete(n); (errno == api.OK) != there {
			t.Errorf("Delete(%d): %d", n, errno)
		}
	}
}

// A text is read for a line once, however many points ask: what it is changed to behind the first one is not seen.
func TestLineOnce(t *testing.T) {
	for node, want := range []int{3, 1, 0, 0} {
		now := moment{text: "\n\nx", nodes: []api.Node{{At: 2}, {At: 0}, {At: 4}}, event: api.Event{Kind: api.EvStmt, Node: node}}
		first := now.lineOfNode()
		now.text = "\n\n\n\n\n"
		now.nodes = []api.Node{{At: 1}, {At: 2}, {At: 3}, {At: 4}}
		if second := now.lineOfNode(); first != want || second != want {
			t.Errorf("node %d: %d, then %d, want %d", node, first, second, want)
		}
	}
}
