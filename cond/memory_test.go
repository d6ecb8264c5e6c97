package cond

import (
	"reflect"
	"runtime"
	"slices"
	"strings"
	"sync"
	"testing"
	"unsafe"

	"retrace/api"
)

// shares tells whether two texts lie in one piece of memory.
func shares(one, other string) bool {
	if one == "" || other == "" {
		return false
	}
	first, second := uintptr(unsafe.Pointer(unsafe.StringData(one))), uintptr(unsafe.Pointer(unsafe.StringData(other)))
	return first < second+uintptr(len(other)) && second < first+uintptr(len(one))
}

// Answers are new memory: they share none with what is handed in, nor with each other.
func TestNewMemory(t *testing.T) {
	own := strings.Repeat("some text ", 3)
	typing := strings.Clone("[[text]]")
	vars := []api.Shown{v("t", "text", x(own)), v("e", "text", x("")), v("a", "[text]", r(1)), v("g", typing, r(2))}
	arrays := [][]api.Value{nil, {x(strings.Clone(own))}, {r(1)}}
	source := strings.Clone(`"a text of its own"`)
	given := []string{own, typing, arrays[1][0].Text, source}
	var answers []string
	for _, text := range []string{"t", "t + e", "e + t", "str(t)", "a[0]", "g[0][0]", "str(a[0])", `"a text of its own"`, source, "t + str(1)", "str(12345)", "str(true)"} {
		for range 2 {
			got, errno := Eval(text, vars, arrays)
			if errno != api.OK || got.Kind != api.ValText {
				t.Fatalf("%s: %v, %d", text, got, errno)
			}
			answers = append(answers, got.Text)
			given = append(given, text)
		}
	}
	for range 2 {
		told, _ := Check("g", declared(vars))
		answers = append(answers, told, Deep(x(own), arrays, 1), Deep(r(2), arrays, 2), Deep(r(2), arrays, 0))
	}
	for n, one := range answers {
		for _, other := range given {
			if shares(one, other) {
				t.Errorf("the answer %q shares memory with what was handed in", one)
			}
		}
		for _, other := range answers[:n] {
			if shares(one, other) {
				t.Errorf("the answer %q shares memory with another one", one)
			}
		}
	}
	runtime.KeepAlive([]any{given, answers})
}

// P19.7: what is handed in is not changed, spare room included.
func TestUnchanged(t *testing.T) {
	room := func() ([]api.Shown, []api.Var, [][]api.Value) {
		vars := append(someVars(), v("x", "text", x("spare")), v("y", "int", i(1)))
		arrays := append(someArrays(), []api.Value{i(1), i(2)}, nil)
		for n := range arrays {
			arrays[n] = append(slices.Clip(arrays[n]), i(99), x("spare"), r(1))[:len(arrays[n])]
		}
		return vars[:len(vars)-2], declared(vars)[:len(vars)-2], arrays[:len(arrays)-2]
	}
	whole := func(vars []api.Shown, plain []api.Var, arrays [][]api.Value) []any {
		all := []any{vars[:cap(vars)], plain[:cap(plain)]}
		for _, list := range arrays[:cap(arrays)] {
			all = append(all, list[:cap(list)], len(list))
		}
		return all
	}
	vars, plain, arrays := room()
	freshVars, freshPlain, freshArrays := room()
	for _, text := range []string{"", "x", "t + t", "g[0][1] + a[0]", "a[2]", "x / 0", "len(g) + len(t)", "str(x)", "y", "f(x)", "new int[1]", "x +", "w[0] + w[1]", "yes && no || yes", "-least", "g == g"} {
		Check(text, plain)
		Eval(text, vars, arrays)
		Holds(text, vars, arrays)
	}
	for n := range arrays {
		for depth := range 5 {
			Deep(r(int64(n)), arrays, depth)
		}
	}
	if !reflect.DeepEqual(whole(vars, plain, arrays), whole(freshVars, freshPlain, freshArrays)) {
		t.Errorf("what was handed in is changed")
	}
	if spare := vars[:cap(vars)]; spare[len(vars)] != v("x", "text", x("spare")) || cap(arrays[0]) < 3 {
		t.Errorf("nothing lies in the spare room")
	}
}

// Nothing is kept: the same question has the same answer, whatever was asked in between and whoever asks at the same time.
func TestNothingKept(t *testing.T) {
	type question struct {
		vars   []api.Shown
		arrays [][]api.Value
		text   string
		value  api.Value
		errno  api.Errno
	}
	var questions []question
	for seed := range 300 {
		g := grow(seed, 60)
		value, errno := Eval(g.text, g.vars, g.arrays)
		questions = append(questions, question{g.vars, g.arrays, g.text, value, errno})
	}
	var all sync.WaitGroup
	for worker := range 4 {
		all.Go(func() {
			for n := range questions {
				q := questions[(n*7+worker*50)%len(questions)]
				if value, errno := Eval(q.text, q.vars, q.arrays); value != q.value || errno != q.errno {
					t.Errorf("%q: %v, %d, was %v, %d", q.text, value, errno, q.value, q.errno)
				}
			}
		})
	}
	all.Wait()
}
