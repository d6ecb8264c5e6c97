package cond

import (
	"math"
	"math/rand"
	"strings"
	"testing"

	"retrace/api"
)

// everyType are all types there are.
func everyType() []string {
	var list []string
	for _, typing := range []string{"int", "bool", "text"} {
		for range api.MaxArray + 1 {
			list = append(list, typing)
			typing = "[" + typing + "]"
		}
	}
	return list
}

// everything are values of every kind and of none, that may be and that may not.
func everything() []api.Value {
	var values []api.Value
	for _, kind := range []api.ValueKind{math.MinInt, -1, 0, 1, 2, 3, 4, 5, 1<<32 + 1, 1<<32 + 4, math.MaxInt} {
		for _, n := range []int64{math.MinInt64, -1, 0, 1, 2, 3, 4, 1 << 32, 1<<32 + 1, math.MaxInt64} {
			for _, text := range []string{"", "a", "\x00", strings.Repeat("z", 256), strings.Repeat("z", 257)} {
				values = append(values, api.Value{Kind: kind, Int: n, Text: text})
			}
		}
	}
	return values
}

// P19.2, P19.5: every value as that of a variable of every type: it is answered, if it fits, else ErrArg.
func TestVariablesFit(t *testing.T) {
	for _, typing := range everyType() {
		for _, arrays := range [][][]api.Value{nil, {}, {nil}, {nil, nil, {i(1)}}, make([][]api.Value, 4)} {
			fit := 0
			for _, one := range everything() {
				vars := []api.Shown{v("x", typing, one)}
				want, wantErrno := one, api.OK
				if !fitsPlainly(one, typing, arrays) {
					want, wantErrno = api.Value{}, api.ErrArg
				} else {
					fit++
				}
				if got, errno := Eval("x", vars, arrays); got != want || errno != wantErrno {
					t.Fatalf("%v as %s over %d arrays: %v, %d", one, typing, len(arrays), got, errno)
				}
				if got, errno := Eval("x == x", vars, arrays); errno != wantErrno || errno == api.OK && got != b(1) {
					t.Fatalf("%v as %s over %d arrays: equal: %v, %d", one, typing, len(arrays), got, errno)
				}
				if holds := Holds("x", vars, arrays); holds != (typing == "bool" && one == b(1)) {
					t.Fatalf("%v as %s holds: %v", one, typing, holds)
				}
			}
			wanted := map[string]int{"int": 10, "bool": 2, "text": 4}[typing]
			if strings.HasPrefix(typing, "[") {
				wanted = len(arrays)
			}
			if fit != wanted {
				t.Errorf("%d values fit %s over %d arrays, want %d", fit, typing, len(arrays), wanted)
			}
		}
	}
}

// P19.2, P19.5: every value as an element of an array of every type, reached by every number of indexes.
func TestElementsFit(t *testing.T) {
	for _, typing := range everyType() {
		for pairs := 1; pairs <= strings.Count(typing, "["); pairs++ {
			element := typing[pairs : len(typing)-pairs]
			text := "x" + strings.Repeat("[1]", pairs)
			for _, one := range everything() {
				// The array n has the array n + 1 as its element 1, the last one the value.
				arrays := make([][]api.Value, pairs+1)
				for n := 1; n < pairs; n++ {
					arrays[n] = []api.Value{{Kind: 99}, r(int64(n + 1)), {Kind: 99}}
				}
				arrays[pairs] = []api.Value{{Kind: 99}, one}
				want, wantErrno := one, api.OK
				if !fitsPlainly(one, element, arrays) {
					want, wantErrno = api.Value{}, api.ErrArg
				}
				vars := []api.Shown{v("x", typing, r(1))}
				if got, errno := Eval(text, vars, arrays); got != want || errno != wantErrno {
					t.Fatalf("%s of %s, element %v: %v, %d, want %d", text, typing, one, got, errno, wantErrno)
				}
				if errno := evalErrno(text+" == "+text, vars, arrays); errno != wantErrno {
					t.Fatalf("%s of %s, element %v: %d, want %d", text, typing, one, errno, wantErrno)
				}
			}
		}
	}
}

func evalErrno(text string, vars []api.Shown, arrays [][]api.Value) api.Errno {
	_, errno := Eval(text, vars, arrays)
	return errno
}

// P19.2: an index at every place around the ends of lists of several lengths: outside it traps, whatever stands there.
func TestIndexes(t *testing.T) {
	for length := range 20 {
		list := make([]api.Value, length, length+5)
		spare := list[:length+5]
		for n := range spare {
			spare[n] = i(int64(100 + n))
		}
		word := strings.Repeat("q", length)
		vars := []api.Shown{v("a", "[int]", r(1)), v("t", "text", x(word)), v("n", "int", i(0))}
		for _, at := range []int64{math.MinInt64, -1 << 32, -2, -1, 0, 1, 2, 15, 16, 17, int64(length) - 1, int64(length), int64(length) + 1, 1 << 32, 1<<32 + 1, math.MaxInt64} {
			vars[2].Value = i(at)
			inside := 0 <= at && at < int64(length)
			for text, want := range map[string]api.Value{"a[n]": i(100 + at), "t[n]": i('q')} {
				got, errno := Eval(text, vars, [][]api.Value{nil, list})
				if inside && (got != want || errno != api.OK) || !inside && (got != (api.Value{}) || errno != api.ErrTrap) {
					t.Errorf("%s at %d of %d: %v, %d", text, at, length, got, errno)
				}
			}
		}
		for text, want := range map[string]api.Value{"len(a)": i(int64(length)), "len(t)": i(int64(length))} {
			if got, errno := Eval(text, vars, [][]api.Value{nil, list}); got != want || errno != api.OK {
				t.Errorf("%s: %v, %d", text, got, errno)
			}
		}
	}
}

// The array 0 is one of the list: it has what stands there.
func TestArrayZero(t *testing.T) {
	vars := []api.Shown{v("a", "[int]", r(0))}
	for text, want := range map[string]api.Value{"a[1]": i(6), "len(a)": i(2), "a": r(0)} {
		if got, errno := Eval(text, vars, [][]api.Value{{i(5), i(6)}}); got != want || errno != api.OK {
			t.Errorf("%s: %v, %d", text, got, errno)
		}
	}
	for _, text := range []string{"a[0]", "len(a)", "a"} {
		if got, errno := Eval(text, vars, nil); got != (api.Value{}) || errno != api.ErrArg {
			t.Errorf("%s without arrays: %v, %d", text, got, errno)
		}
	}
}

// P19.4: every value, at every depth, as it is and as an element.
func TestDeepOfEverything(t *testing.T) {
	arrays := [][]api.Value{{i(1)}, nil, {x("q"), r(0), r(2)}}
	for _, one := range everything() {
		for depth := -2; depth <= 7; depth++ {
			if got, want := Deep(one, arrays, depth), deepPlainly(one, arrays, depth); got != want {
				t.Fatalf("%v at depth %d: %s, want %s", one, depth, got, want)
			}
			more := append(arrays[:3:3], []api.Value{one, one})
			if got, want := Deep(r(3), more, depth), deepPlainly(r(3), more, depth); got != want {
				t.Fatalf("%v in an array at depth %d: %s, want %s", one, depth, got, want)
			}
		}
	}
}

// P19.7: any texts over any variables and arrays.
func TestAnyTexts(t *testing.T) {
	g := &grower{Rand: rand.New(rand.NewSource(19)), wild: 500}
	words := []string{"x", "y", "a", "t", "(", ")", "[", "]", "+", "-", "!", "==", "&&", "||", "1", "0", "true", `"q"`, "len", "str", "new", "int", "f", ",", " ", "\n", "\x00", "\xff", "#", `"`, "@", "{", "}", ";", "9223372036854775808", "if"}
	taken := 0
	for range seeds(100000) {
		text := ""
		for range g.Intn(7) {
			text += pick(g, words...)
		}
		g.vars, g.arrays = nil, nil
		for range g.Intn(5) {
			g.vars = append(g.vars, v(pick(g, "x", "y", "a", "t", "f", "", "if"), pick(g, "int", "bool", "text", "[int]", "[[text]]", "void", ""), g.anything()))
		}
		for range g.Intn(4) {
			g.arrays = append(g.arrays, []api.Value{g.anything(), g.anything()})
		}
		typing, problem := Check(text, declared(g.vars))
		if (typing == "") != (problem.Code != api.OK) || problem.At < 0 || problem.At > len(text) {
			t.Fatalf("%q: %q, %v", text, typing, problem)
		}
		got, errno := Eval(text, g.vars, g.arrays)
		if problem.Code != api.OK && errno != problem.Code || errno != api.OK && got != (api.Value{}) || errno == api.OK && !fitsPlainly(got, typing, g.arrays) {
			t.Fatalf("%q: %v, %d; %q, %v", text, got, errno, typing, problem)
		}
		if problem.Code == api.OK {
			taken++
		}
		Holds(text, g.vars, g.arrays)
		Deep(g.anything(), g.arrays, g.Intn(8)-2)
	}
	if taken < seeds(2000) {
		t.Errorf("only %d texts were taken", taken)
	}
}
