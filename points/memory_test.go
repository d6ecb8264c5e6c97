package points

import (
	"fmt"
	"runtime"
	"slices"
	"sync"
	"testing"
	"unsafe"

	"retrace/api"
)

// loose is a text whose bytes can still be written.
func loose(text string) ([]byte, string) {
	room := []byte(text)
	return room, unsafe.String(&room[0], len(room))
}

func shares(one, other string) bool {
	if one == "" || other == "" {
		return false
	}
	first, second := uintptr(unsafe.Pointer(unsafe.StringData(one))), uintptr(unsafe.Pointer(unsafe.StringData(other)))
	return first < second+uintptr(len(other)) && second < first+uintptr(len(one))
}

// What is handed in is not kept but by its content; answers share no memory with it, nor with each other.
func TestNewMemory(t *testing.T) {
	nameRoom, name := loose("watched")
	conditionRoom, condition := loose("watched > 1")
	given := onChange(name, condition)
	table := New()
	table.Add(given)
	first, _ := table.Get(1)
	second, _ := table.Get(1)
	for _, pair := range [][2]string{{first.Name, name}, {first.Cond, condition}, {first.Name, second.Name}, {first.Cond, second.Cond}, {first.Name, table.points[1].Name}, {first.Cond, table.points[1].Cond}, {table.points[1].Name, name}, {table.points[1].Cond, condition}} {
		if shares(pair[0], pair[1]) {
			t.Errorf("%q shares its memory", pair[0])
		}
	}
	nameRoom[0], conditionRoom[0] = 'm', '('
	if got, errno := table.Get(1); errno != api.OK || got != onChange("watched", "watched > 1") {
		t.Errorf("the point has changed: %+v", got)
	}
	runtime.KeepAlive([]any{given, first, second})
}

// P20.6: the lists of numbers are new memory each, spare room included.
func TestNewNumbers(t *testing.T) {
	table := of(t, onLine(1, ""), onLine(2, ""), onLine(3, ""))
	first := table.Numbers()
	second := table.Numbers()
	for list := first[:cap(first)]; len(list) > 0; list = list[1:] {
		list[0] = 99
	}
	if want := []int{1, 2, 3}; !slices.Equal(second, want) || !slices.Equal(table.Numbers(), want) {
		t.Errorf("Numbers = %v, then %v", second, table.Numbers())
	}
}

// P20.4, P20.6: Match changes neither the table nor what is handed in, spare room included.
func TestUnchanged(t *testing.T) {
	made := func() (api.Program, []api.Frame, [][]api.Value) {
		p := checked(t, adding)
		p.Tree.Nodes = append(slices.Clip(p.Tree.Nodes), api.Node{Kind: api.KParam, Name: "spare"}, api.Node{})[:len(p.Tree.Nodes)]
		vars := append(seeing("a", "[int]", api.Value{Kind: api.ValRef, Int: 1})[0].Vars, api.Shown{Var: api.Var{Name: "a", Type: "int"}, Value: number(3)}, api.Shown{})
		frames := []api.Frame{{Func: 1, Node: 4, Vars: vars[:1]}, {Vars: vars[1:2]}, {Node: 9}}
		arrays := [][]api.Value{nil, {number(1), number(43), number(9)}, {number(2)}}
		arrays[1] = arrays[1][:2]
		return p, frames[:2], arrays[:2]
	}
	whole := func(p api.Program, frames []api.Frame, arrays [][]api.Value) string {
		var all []any
		for _, f := range frames[:cap(frames)] {
			all = append(all, f, f.Vars[:cap(f.Vars)])
		}
		for _, list := range arrays[:cap(arrays)] {
			all = append(all, list, list[:cap(list)])
		}
		nodes := p.Tree.Nodes
		return fmt.Sprintf("%q %+v %+v %+v", p.Text, p, nodes[:cap(nodes)], all)
	}
	p, frames, arrays := made()
	want := whole(p, frames, arrays)
	table := of(t, onLine(2, "a[1] == 43"), onCall("add", "a[0] == 1"), onChange("a", "len(a) == 2"), onLine(9, ""), onChange("x", "a[2] == 9"), onLine(8, "a[0] > 0 && a[9] == 1"))
	table.Turn(4, true)
	points, last := fmt.Sprint(table.points), table.last
	told := make([]int, 8)
	for kind := api.EvStmt; kind <= api.EvTouch; kind++ {
		for node := range cap(p.Tree.Nodes) {
			for _, name := range []string{"a", "x", "add", "main"} {
				e := api.Event{Kind: kind, Node: node, Name: name}
				got := table.Match(p, e, frames, arrays)
				told[got]++
				if again := table.Match(p, e, frames, arrays); again != got {
					t.Errorf("%+v: %d, then %d", e, got, again)
				}
			}
		}
	}
	if whole(p, frames, arrays) != want {
		t.Errorf("what was handed in is changed")
	}
	if fmt.Sprint(table.points) != points || table.last != last {
		t.Errorf("the table is changed")
	}
	if told[1] == 0 || told[2] == 0 || told[3] == 0 || told[4] != 0 || told[5] != 0 || told[6] != 0 {
		t.Errorf("the points were told %v times", told)
	}
}

// P20.6: two tables share nothing, whoever asks them at the same time.
func TestTwoTables(t *testing.T) {
	p := checked(t, sample)
	one, other := of(t, onLine(2, "")), of(t, onLine(4, ""), onChange("a", ""))
	one.Add(onCall("f", ""))
	one.Delete(1)
	one.Turn(2, true)
	if got := other.Numbers(); !slices.Equal(got, []int{1, 2}) {
		t.Errorf("Numbers of the other one = %v", got)
	}
	if got := other.Match(p, api.Event{Kind: api.EvStmt, Node: 9}, nil, nil); got != 1 {
		t.Errorf("Match of the other one = %d", got)
	}
	if got := other.Match(p, api.Event{Kind: api.EvTouch, Name: "a"}, nil, nil); got != 2 {
		t.Errorf("Match of the other one = %d", got)
	}
	if got, errno := other.Add(onLine(1, "")); got != 3 || errno != api.OK {
		t.Errorf("the other one's next number is %d, %d", got, errno)
	}
	var all sync.WaitGroup
	for worker := range 4 {
		all.Go(func() {
			table := New()
			for n := 1; n <= 500; n++ {
				table.Add(onLine(2, "a == a || true"))
				table.Add(onLine(2, ""))
				got := table.Match(p, api.Event{Kind: api.EvStmt, Node: 4}, seeing("a", "int", number(int64(worker))), nil)
				if list := table.Numbers(); got != 2*n-1 || !slices.Equal(list, []int{2*n - 1, 2 * n}) {
					t.Errorf("worker %d: Match = %d, Numbers = %v", worker, got, list)
				}
				table.Turn(2*n-1, true)
				table.Delete(2*n - 1)
				table.Delete(2 * n)
			}
		})
	}
	all.Wait()
}
