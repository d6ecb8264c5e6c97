package shorten

import (
	"math/rand"
	"slices"
	"strconv"
	"strings"
	"testing"

	"retrace/api"
	"retrace/compile"
	"retrace/events"
	"retrace/flow"
	"retrace/vm"
)

// writer makes sources that are right in all that the front asks for: the functions and their first variables are the same ones always, and what stands in them is grown by the rules below. Much of it is known ahead of the run.
type writer struct {
	*rand.Rand
	returns string // the rule by which the function that is written comes back
	loops   int    // how many are around
}

// rules: what a capital letter stands for: a statement, a block; a number, a truth, a text, a list. What comes more often stands there more often.
var rules = map[byte][]string{
	'S': {"a = N; ", "b = N; ", "p = B; ", "s = T; ", "x = L; ", "x[N] = N; ", "a = a; ", "p = p; ", "read a; ", "read x[b]; ", "f(N, p); ", "g(T); ", "k(); ", "print N; ", "print N, B, T; ", "if B { R} ", "if B D", "if B Delse D", "if B Delse if B D", "W", "W", "D", "J", "J"},
	'D': {"{ S} ", "{ SS} ", "{ SSS} ", "{ } "},
	'N': {"a", "b", "1", "2", "0", "(N + N)", "(N - N)", "(N * N)", "(N / N)", "(N % 3)", "-N", "x[N]", "s[0]", "len(T)", "len(L)", "f(N, B)"},
	'B': {"p", "!B", "true", "false", "(N < N)", "(N == N)", "(B != B)", "(T > T)", "(B && B)", "(B || B)", "(B && B)", "(x == L)"},
	'T': {"s", "\"ab\"", "(T + T)", "str(N)", "str(B)", "g(T)"},
	'L': {"x", "new int[3]", "new int[N]"},
}

// smallest: the same, where nothing may stand within it.
var smallest = map[byte][]string{
	'S': {"a = a - 1; ", "p = !p; ", "print a, s; ", "k(); ", "b = b; ", "s = s + \"" + strings.Repeat("long", 20) + "\"; "},
	'D': {"{ } "},
	'N': {"a", "b", "0", "1", "2", "9223372036854775807"},
	'B': {"p", "true", "false"},
	'T': {"s", "\"\"", "\"" + strings.Repeat("long", 40) + "\""},
	'L': {"x"},
}

func (w *writer) source() string {
	text := ""
	for _, f := range [][2]string{{"f(n: int, q: bool): int", "return N; "}, {"g(t: text): text", "return T; "}, {"main()", "return; "}, {"k()", "return; "}} {
		w.returns = f[1]
		text += "fn " + f[0] + w.fill(" { var a: int = 3; var b: int = 1; var p: bool = true; var s: text = \"sss\"; var x: [int] = new int[3]; "+strings.Repeat("S", 2+w.Intn(6))+"R}\n", 5)
	}
	return text
}

// fill puts something in the place of each capital letter.
func (w *writer) fill(rule string, left int) string {
	var out strings.Builder
	for _, one := range []byte(rule) {
		list := rules[one]
		if left <= 0 {
			list = smallest[one]
		}
		switch {
		case one == 'R':
			out.WriteString(w.fill(w.returns, min(left, 2)))
		case one == 'W':
			out.WriteString(w.loop(left))
		case one == 'J' && w.loops > 0:
			jump := []string{"break", "continue"}[w.Intn(2)] + " l" + strconv.Itoa(w.Intn(w.loops)) + "; "
			out.WriteString(w.fill("if B { ", 1) + jump + "} ")
		case one == 'J':
			out.WriteString("k(); ")
		case list != nil:
			out.WriteString(w.fill(list[w.Intn(len(list))], left-1))
		default:
			out.WriteByte(one)
		}
	}
	return out.String()
}

func (w *writer) loop(left int) string {
	head := w.fill([]string{"while B ", "for i = N to N "}[w.Intn(2)], min(left, 2))
	text := "l" + strconv.Itoa(w.loops) + ": " + head
	w.loops++
	text += w.fill("D", left)
	w.loops--
	return text
}

// codes are those of a source, without hooks and with them.
func codes(t *testing.T, text string) []api.Code {
	t.Helper()
	p, problem := flow.Front(text)
	bare, errno := compile.Program(p)
	built, problemToo := events.Build(text)
	if problem.Code != api.OK || errno != api.OK || problemToo.Code != api.OK {
		t.Fatalf("%s: %v, %d, %v", text, problem, errno, problemToo)
	}
	return []api.Code{bare, built.Code}
}

// P27.6: what is compiled means the same when it is shortened, with hooks and without.
func TestCompiled(t *testing.T) {
	ended, trapped := 0, 0
	for seed := range seeds(1200) {
		w := &writer{Rand: rand.New(rand.NewSource(seed))}
		text := w.source()
		g := grower{w.Rand}
		for _, c := range codes(t, text) {
			short, errno := Shorten(c)
			if errno != api.OK {
				t.Fatalf("P27.1: %s: %d", text, errno)
			}
			keeps(t, "Shorten", c, short)
			isShort(t, short)
			for range 2 {
				switch seenTheSame(t, c, short, g.input(), g.limits(), 1500).Phase {
				case api.Ended:
					ended++
				case api.Trapped:
					trapped++
				}
			}
		}
	}
	if ended < int(seeds(500)) || trapped < int(seeds(1000)) {
		t.Errorf("%d ended, %d trapped", ended, trapped)
	}
}

// P27.2 to P27.5: the same as the chapter's words, of what is compiled.
func TestCompiledHolds(t *testing.T) {
	for _, text := range []string{
		"fn main() { print 1 + 2 * 3 - -4, !true, (1 < 2) == (3 > 4), 7 / 2, 7 % 0; }",
		"fn main() { if true && (false || true) && !(false && true) { print \"yes\"; } else { print \"no\"; } }",
		"fn main() { while true { while true { break; } if false { continue; } break; } }",
		"fn main() { o: for i = 1 to 2 + 3 { if i == 4 { continue o; } if i == 5 { break; } print i; } }",
		"fn f(): int { while true { return 1; } return 2; } fn main() { f(); var x: int = f(); x = x; { x = 4; } }",
		"fn f(a: bool): bool { if a { return false; } else if !a { return true && false; } else { return a || true; } } fn main() { read_all(); f(f(true)); } fn read_all() { var n: int = 0; while n >= 0 { read n; } }",
	} {
		for _, c := range codes(t, text) {
			short, safe := holds(t, c)
			if !safe {
				t.Fatalf("%s is not safe", told(c))
			}
			for _, input := range [][]int64{nil, {1, 2, -3}} {
				seenTheSame(t, c, short, input, api.Limits{Depth: 3}, 2000)
			}
		}
	}
}

// P27.6: at every number of instructions, one after the other: the yields so far are the first ones of those of the shorter code.
func TestEachMoment(t *testing.T) {
	for seed := range seeds(300) {
		w := &writer{Rand: rand.New(rand.NewSource(seed))}
		g := grower{w.Rand}
		c := codes(t, w.source())[1]
		d, _ := Shorten(c)
		input, l := g.input(), g.limits()
		a, _ := vm.New(c, input, l)
		b, _ := vm.New(d, input, l)
		var yields, short []api.Yield
		for n := range 400 {
			if y, yielded := a.Step(); yielded {
				yields = append(yields, y)
			}
			if y, yielded := b.Step(); yielded {
				short = append(short, y)
			}
			if len(yields) > len(short) || !slices.Equal(yields, short[:len(yields)]) {
				t.Fatalf("P27.6: %s, %v, %v: within %d instructions %v, of %s %v", told(c), input, l, n+1, yields, told(d), short)
			}
			if x := a.Result(); x.Outcome.Phase != api.Running && !sameEnd(x, b.Result()) {
				t.Fatalf("P27.6: %s, %v, %v: %v, of %s %v", told(c), input, l, x, told(d), b.Result())
			}
		}
	}
}
