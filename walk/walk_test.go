package walk

import (
	"math"
	"slices"
	"strconv"
	"strings"
	"testing"

	"retrace/api"
	"retrace/flow"
	"retrace/parse"
	"retrace/value"
)

var wide = api.Limits{Depth: 10, Cells: 100}

func front(t testing.TB, text string) api.Program {
	t.Helper()
	p, problem := flow.Front(text)
	if problem.Code != api.OK {
		t.Fatalf("%q is refused: %v", text, problem)
	}
	return p
}

func ran(t testing.TB, text string, input []int64, l api.Limits, events int) (api.Program, api.Run) {
	t.Helper()
	p := front(t, text)
	r, errno := Run(p, input, l, events)
	if errno != api.OK {
		t.Fatalf("Run(%q): %d", text, errno)
	}
	return p, r
}

// told is events in words: the kind, what stands at the node in the source (up to a blank or a bracket), the name and the value.
func told(p api.Program, events []api.Event) string {
	kinds := []string{"", "stmt", "enter", "exit", "call", "leave", "return", "set", "touch"}
	var words []string
	for _, e := range events {
		word := kinds[e.Kind]
		if e.Kind == api.EvStmt || e.Kind == api.EvSet || e.Kind == api.EvTouch {
			at := p.Text[p.Tree.Nodes[e.Node].At:]
			word += " " + at[:strings.IndexAny(at+" ", " ([;:")]
		}
		if e.Name != "" {
			word += " " + e.Name
		}
		if e.Value != (api.Value{}) {
			word += "=" + value.Show(e.Value)
		}
		words = append(words, word)
	}
	return strings.Join(words, ", ")
}

const ten = `fn add(a: int, b: int): int {
  return a + b;
}
fn main() {
  var x: int = 2;
  read x;
  var a: [int] = new int[x];
  a[1] = add(x, 40);
  print x, a[1], "ok";
}
`

// DOC.md's examples 1 to 6.
func TestTen(t *testing.T) {
	all := strings.Split("call main|stmt var|set var x=2|stmt read|set read x=3|stmt var|set var a=#1|stmt a|call add|set a a=3|set b b=40|stmt return|return=43|touch a a=#1|stmt print|leave", "|")
	of := func(kind api.ValueKind, numbers ...int64) []api.Value {
		var values []api.Value
		for _, n := range numbers {
			values = append(values, api.Value{Kind: kind, Int: n})
		}
		return values
	}
	full := [][]api.Value{nil, of(api.ValInt, 0, 43, 0)}
	fresh := [][]api.Value{nil, of(api.ValInt, 0, 0, 0)}
	for _, row := range []struct {
		input   []int64
		limits  api.Limits
		events  int
		outcome api.Outcome
		count   int
		read    int
		output  string
		arrays  [][]api.Value
	}{
		{[]int64{3}, wide, 17, api.Outcome{Phase: api.Ended}, 16, 1, "3 43 ok\n", full},
		{[]int64{3}, wide, api.MaxBudget, api.Outcome{Phase: api.Ended}, 16, 1, "3 43 ok\n", full},
		{[]int64{3, 4}, wide, 17, api.Outcome{Phase: api.Ended}, 16, 1, "3 43 ok\n", full},
		{[]int64{3}, wide, 16, api.Outcome{}, 16, 1, "3 43 ok\n", full},
		{[]int64{3}, wide, 15, api.Outcome{}, 15, 1, "", full},
		{[]int64{3}, wide, 14, api.Outcome{}, 14, 1, "", full},
		{[]int64{3}, wide, 13, api.Outcome{}, 13, 1, "", fresh},
		{[]int64{3}, wide, 5, api.Outcome{}, 5, 1, "", [][]api.Value{nil}},
		{[]int64{3}, wide, 4, api.Outcome{}, 4, 0, "", [][]api.Value{nil}},
		{[]int64{3}, wide, 0, api.Outcome{}, 0, 0, "", [][]api.Value{nil}},
		{[]int64{3}, wide, -7, api.Outcome{}, 0, 0, "", [][]api.Value{nil}},
		{nil, wide, 99, api.Outcome{Phase: api.Trapped, Trap: api.TrapInput}, 4, 0, "", [][]api.Value{nil}},
		{nil, wide, 4, api.Outcome{}, 4, 0, "", [][]api.Value{nil}},
		{[]int64{3}, api.Limits{Depth: 10, Cells: 3}, 99, api.Outcome{Phase: api.Trapped, Trap: api.TrapHeap}, 6, 1, "", [][]api.Value{nil}},
		{[]int64{3}, api.Limits{Depth: 10, Cells: 4}, 99, api.Outcome{Phase: api.Ended}, 16, 1, "3 43 ok\n", full},
		{[]int64{3}, api.Limits{Depth: 1, Cells: 100}, 99, api.Outcome{Phase: api.Trapped, Trap: api.TrapDepth}, 8, 1, "", fresh},
		{[]int64{3}, api.Limits{Depth: 2, Cells: 100}, 99, api.Outcome{Phase: api.Ended}, 16, 1, "3 43 ok\n", full},
	} {
		p, r := ran(t, ten, row.input, row.limits, row.events)
		if r.Outcome != row.outcome || r.Steps != row.count || r.Input != row.read || r.Output != row.output || !sameArrays(r.Arrays, row.arrays) {
			t.Errorf("%v, %v, %d: %v", row.input, row.limits, row.events, r)
		}
		if wanted := strings.Join(all[:row.count], ", "); told(p, r.Events) != wanted {
			t.Errorf("%v, %v, %d: %s, want %s", row.input, row.limits, row.events, told(p, r.Events), wanted)
		}
	}
	p, r := ran(t, ten, []int64{1}, wide, 99)
	if r.Outcome != (api.Outcome{Phase: api.Trapped, Trap: api.TrapIndex}) || r.Output != "" || !strings.HasSuffix(told(p, r.Events), "stmt return, return=41") || r.Steps != 13 {
		t.Errorf("with the input 1: %v", r)
	}
}

// The order within each kind of node: the chapter's table, row by row.
func TestOrder(t *testing.T) {
	const say = ` fn i(x: int): int { print "i", x; return x; } fn b(x: bool): bool { print "b", x; return x; } fn a(x: [int]): [int] { print "a"; return x; } fn s(x: text): text { print x; return x; }`
	for _, row := range []struct{ main, events, output string }{
		{`print 7, true, "a b", "";`, "stmt print, leave", "7 true a b \n"},
		{`print "" + "x", "\x00\xff\n";`, "stmt print, leave", "x \x00\xff\n\n"},
		{`print i(1) - i(2) * i(3);`, "", "i 1\ni 2\ni 3\n-5\n"},
		{`print -i(1), !b(true), i(2);`, "", "i 1\nb true\ni 2\n-1 false 2\n"},
		{`print b(false) && b(true), b(true) && b(false), b(true) && b(true);`, "", "b false\nb true\nb false\nb true\nb true\nfalse false true\n"},
		{`print b(false) || b(true), b(true) || b(false), b(false) || b(false);`, "", "b false\nb true\nb true\nb false\nb false\ntrue true false\n"},
		{`print s("xyz")[i(1)];`, "", "xyz\ni 1\n121\n"},
		{`print a(new int[3])[i(1)];`, "", "a\ni 1\n0\n"},
		{`print a(new int[3])[i(3)];`, "", "a\ni 3\n"},
		{`print s("abc")[i(3)], i(9);`, "", "abc\ni 3\n"},
		{`var x: [int] = new int[i(2)]; x[i(0)] = i(4); print x[0], len(x), len(s("four"));`, "", "i 2\ni 0\ni 4\nfour\n4 2 4\n"},
		{`var x: [int] = new int[2]; x[i(5)] = i(4);`, "", "i 5\ni 4\n"},
		{`var x: [int] = new int[2]; x[i(-1)] = 1 / i(0);`, "", "i -1\ni 0\n"},
		{`var x: [[int]] = new [int][2]; x[1] = new int[1]; x[i(1)][i(0)] = i(3); print x[1][0], len(x[0]);`, "", "i 1\ni 0\ni 3\n3 0\n"},
		{`var x: [[int]] = new [int][2]; x[i(0)][i(0)] = i(3);`, "", "i 0\ni 0\ni 3\n"},
		{`var x: [[int]] = new [int][2]; x[i(2)][i(0)] = i(3);`, "", "i 2\n"},
		{`print new bool[1][0], new text[1][0] + "!", new [int][1][0] == new int[0], len(new [int][1][0]);`, "stmt print, leave", "false ! false 0\n"},
		{`print str(i(4)) + str(true) + str("t");`, "", "i 4\n4truet\n"},
		{`var x: int = 5; { var x: int = x + 1; x = x * 10; print x; } print x;`, "stmt var, set var x=5, enter, stmt var, set var x=6, stmt x, set x x=60, stmt print, exit, stmt print, leave", "60\n5\n"},
		{`if true { print 1; } if false { print 2; }`, "stmt if, enter, stmt print, exit, stmt if, leave", "1\n"},
		{`if false { print 1; } else if true { print 2; } else { print 3; } if false { } else if false { } else { print 4; }`, "stmt if, enter, stmt print, exit, stmt if, enter, stmt print, exit, leave", "2\n4\n"},
		{`var x: int = 0; while x < 2 { x = x + 1; }`, "stmt var, set var x=0, stmt while, enter, stmt x, set x x=1, exit, enter, stmt x, set x x=2, exit, leave", ""},
		{`while b(false) { print 1; }`, "", "b false\n"},
		{`for x = i(1) to i(2) { x = x + 5; print x; }`, "", "i 1\ni 2\n6\n7\n"},
		{`for x = 1 to 2 { x = 9; }`, "stmt for, enter, set for x=1, stmt x, set x x=9, exit, enter, set for x=2, stmt x, set x x=9, exit, leave", ""},
		{`for x = 2 to 1 { print x; } for x = -9 to -9 { print x; }`, "stmt for, stmt for, enter, set for x=-9, stmt print, exit, leave", "-9\n"},
		{`for x = 9223372036854775806 to 9223372036854775807 { if x > 0 { continue; } } print 1;`, "stmt for, enter, set for x=9223372036854775806, stmt if, enter, stmt continue, enter, set for x=9223372036854775807, stmt if, enter, stmt continue, stmt print, leave", "1\n"},
		{`for x = -9223372036854775807 - 1 to 9223372036854775807 { if x < -9223372036854775806 { print x; continue; } break; }`, "stmt for, enter, set for x=-9223372036854775808, stmt if, enter, stmt print, stmt continue, enter, set for x=-9223372036854775807, stmt if, enter, stmt print, stmt continue, enter, set for x=-9223372036854775806, stmt if, stmt break, leave", "-9223372036854775808\n-9223372036854775807\n"},
		{`out: for i = 1 to 2 { while i < 9 { if i == 1 { continue out; } break; } print i; }`, "stmt out, enter, set out i=1, stmt while, enter, stmt if, enter, stmt continue, enter, set out i=2, stmt while, enter, stmt if, stmt break, stmt print, exit, leave", "2\n"},
		{`o: while true { for i = 1 to 3 { while true { break o; } } print 1; } print 2;`, "stmt o, enter, stmt for, enter, set for i=1, stmt while, enter, stmt break, stmt print, leave", "2\n"},
		{`for i = 1 to 2 { for i = 3 to 4 { continue; } }`, "stmt for, enter, set for i=1, stmt for, enter, set for i=3, stmt continue, enter, set for i=4, stmt continue, exit, enter, set for i=2, stmt for, enter, set for i=3, stmt continue, enter, set for i=4, stmt continue, exit, leave", ""},
		{`{ { } return; }`, "enter, enter, exit, stmt return, return", ""},
		{`return; print 1;`, "stmt return, return", ""},
		{`while true { for i = 1 to 9 { { return; } } }`, "stmt while, enter, stmt for, enter, set for i=1, enter, stmt return, return", ""},
		{`print 1 / 0; print 2;`, "stmt print", ""},
		{`print i(1), 1 % 0, i(2);`, "", "i 1\n"},
		{`i(3); print 1;`, "stmt i, call i, set x x=3, stmt print, stmt return, return=3, stmt print, leave", "i 3\n1\n"},
		{`i(i(3) + 1);`, "stmt i, call i, set x x=3, stmt print, stmt return, return=3, call i, set x x=4, stmt print, stmt return, return=4, leave", "i 3\ni 4\n"},
		{``, "leave", ""},
	} {
		p, r := ran(t, "fn main() { "+row.main+" }"+say, nil, wide, 200)
		if r.Output != row.output {
			t.Errorf("%s: %q, want %q", row.main, r.Output, row.output)
		}
		if wanted := "call main, " + row.events; row.events != "" && told(p, r.Events) != wanted {
			t.Errorf("%s: %s, want %s", row.main, told(p, r.Events), wanted)
		}
	}
}

// Reads: the number is taken behind the place's own parts, and ahead of the look at the index.
func TestReads(t *testing.T) {
	const f = " fn f(): int { var x: int = 0; read x; return x; }"
	for _, row := range []struct {
		main   string
		input  []int64
		trap   api.Trap
		read   int
		output string
	}{
		{`var x: int = 0; read x; print x;`, []int64{7, 8}, 0, 1, "7\n"},
		{`var x: int = 0; read x; read x; print x;`, []int64{math.MinInt64, math.MaxInt64}, 0, 2, "9223372036854775807\n"},
		{`var x: int = 0; read x; read x;`, []int64{1}, api.TrapInput, 1, ""},
		{`var x: [int] = new int[9]; read x[f()]; print x[3], x[5];`, []int64{3, 5}, 0, 2, "5 0\n"},
		{`var x: [int] = new int[2]; read x[2]; print 1;`, []int64{3, 5}, api.TrapIndex, 1, ""},
		{`var x: [int] = new int[2]; read x[-1]; print 1;`, nil, api.TrapInput, 0, ""},
		{`var x: [int] = new int[2]; read x[1 / 0]; print 1;`, []int64{3}, api.TrapDivide, 0, ""},
		{`var x: [[int]] = new [int][2]; read x[2][f()]; print 1;`, []int64{3}, api.TrapIndex, 0, ""},
		{`var x: [[int]] = new [int][2]; read x[1][f()]; print 1;`, []int64{3, 4}, api.TrapIndex, 2, ""},
	} {
		_, r := ran(t, "fn main() { "+row.main+" }"+f, row.input, wide, 200)
		if r.Outcome.Trap != row.trap || r.Input != row.read || r.Output != row.output {
			t.Errorf("%s, %v: %v", row.main, row.input, r)
		}
	}
	p, r := ran(t, "fn main() { var x: [[int]] = new [int][2]; x[1] = new int[1]; var y: int = 0; read x[1][0]; read y; y = x[1][0] + y; }", []int64{3, 4}, wide, 99)
	if got := told(p, r.Events); got != "call main, stmt var, set var x=#1, stmt x, touch x x=#1, stmt var, set var y=0, stmt read, touch read x=#1, stmt read, set read y=4, stmt y, set y y=7, leave" {
		t.Errorf("reads tell %s", got)
	}
}

// Traps, each where it comes, with what was done ahead of it.
func TestTraps(t *testing.T) {
	long := strings.Repeat("x", 128)
	for _, row := range []struct {
		main   string
		trap   api.Trap
		events int
		output string
	}{
		{`print 1; print 1 / 0;`, api.TrapDivide, 3, "1\n"},
		{`var x: int = 1 % 0;`, api.TrapDivide, 2, ""},
		{`print "a"[1];`, api.TrapIndex, 2, ""},
		{`print ""[0];`, api.TrapIndex, 2, ""},
		{`print new int[0][0];`, api.TrapIndex, 2, ""},
		{`print len(new int[-1]);`, api.TrapIndex, 2, ""},
		{`print len(new int[99]);`, 0, 3, "99\n"},
		{`print len(new int[100]);`, api.TrapHeap, 2, ""},
		{`print len(new int[9223372036854775807]);`, api.TrapHeap, 2, ""},
		{`var x: int = 0; read x;`, api.TrapInput, 4, ""},
		{`var s: text = "` + long + `"; s = s + s; print len(s); s = s + "";  s = s + "!";`, api.TrapLong, 9, "256\n"},
		{`main();`, api.TrapDepth, 20, ""},
		{`if 1 / 0 == 1 { }`, api.TrapDivide, 2, ""},
		{`while 1 / 0 == 1 { }`, api.TrapDivide, 2, ""},
		{`for i = 1 / 0 to 1 { }`, api.TrapDivide, 2, ""},
		{`for i = 1 to 1 / 0 { }`, api.TrapDivide, 2, ""},
		{`f(1 / 0);`, api.TrapDivide, 2, ""},
		{`{ { print 1; f(0); } }`, api.TrapDivide, 8, "1\n"},
	} {
		_, r := ran(t, "fn main() { "+row.main+" } fn f(x: int): int { return 1 / x; }", nil, wide, 200)
		phase := api.Trapped
		if row.trap == api.NoTrap {
			phase = api.Ended
		}
		if r.Outcome != (api.Outcome{Phase: phase, Trap: row.trap}) || r.Steps != row.events || len(r.Events) != row.events || r.Output != row.output {
			t.Errorf("%s: %v", row.main, r)
		}
	}
}

// The depth is asked behind the arguments; what has come back counts no more.
func TestDepth(t *testing.T) {
	const f = "fn f(n: int): int { print n; if n == 0 { return 0; } return f(n - 1) + 1; } fn g(n: int) { if n > 0 { g(n - 1); } } "
	for _, row := range []struct {
		main   string
		depth  int
		trap   api.Trap
		output string
	}{
		{"print f(0), f(0), f(0);", 2, 0, "0\n0\n0\n0 0 0\n"},
		{"print f(1);", 2, api.TrapDepth, "1\n"},
		{"print f(1);", 3, 0, "1\n0\n1\n"},
		{"print f(f(f(0)));", 2, 0, "0\n0\n0\n0\n"},
		{"print f(f(0));", 1, api.TrapDepth, ""},
		{"g(998); print 1;", 1000, 0, "1\n"},
		{"g(999); print 1;", 1000, api.TrapDepth, ""},
		{"for i = 1 to 3 { g(1); g(0); } print 2;", 3, 0, "2\n"},
	} {
		_, r := ran(t, f+"fn main() { "+row.main+" }", nil, api.Limits{Depth: row.depth}, 100000)
		if r.Outcome.Trap != row.trap || r.Output != row.output || r.Outcome.Phase == api.Running {
			t.Errorf("%s within %d: %v", row.main, row.depth, r.Outcome)
		}
		if there := frames(r.Events); there != 0 && r.Outcome.Phase == api.Ended || row.trap == api.TrapDepth && there != row.depth {
			t.Errorf("%s within %d: %d frames", row.main, row.depth, there)
		}
	}
}

// A call has variables and loops of its own, while those of its caller wait.
func TestFrames(t *testing.T) {
	_, r := ran(t, `fn f(n: int): int { var s: int = 0; out: for i = 1 to 3 { for j = 1 to 3 { if n > 0 { s = s + f(n - 1) * 10; } if j == 2 { continue out; } if i == 3 { break out; } s = s + i * j; } } return s; } fn main() { print f(0), f(1), f(2); }`, nil, wide, 10000)
	meaning := func(n int) int { return 0 }
	meaning = func(n int) int {
		s := 0
	out:
		for i := 1; i <= 3; i++ {
			for j := 1; j <= 3; j++ {
				if n > 0 {
					s += meaning(n-1) * 10
				}
				if j == 2 {
					continue out
				}
				if i == 3 {
					break out
				}
				s += i * j
			}
		}
		return s
	}
	wanted := strconv.Itoa(meaning(0)) + " " + strconv.Itoa(meaning(1)) + " " + strconv.Itoa(meaning(2)) + "\n"
	if r.Output != wanted || r.Outcome.Phase != api.Ended {
		t.Errorf("loops in loops' calls: %v, %q, want %q", r.Outcome, r.Output, wanted)
	}
	// Both operands of a sum are on their way when the right one's call leaves a loop.
	_, r = ran(t, `fn f(): int { while true { for i = 1 to 2 { return i; } } return 9; } fn main() { for i = 5 to 6 { while true { print i + (f() + f() * i); break; } } }`, nil, wide, 1000)
	if r.Output != "11\n13\n" || r.Outcome.Phase != api.Ended {
		t.Errorf("returns out of loops: %v, %q", r.Outcome, r.Output)
	}
}

// P11.3, P11.1: arrays are told by number, with the elements that they have by then.
func TestArrays(t *testing.T) {
	p := front(t, `fn main() { var a: [text] = new text[2]; var b: [[bool]] = new [bool][1]; b[0] = new bool[2]; a[1] = "x"; b[0][1] = a[1] == "x"; var e: [int] = new int[0]; b[0] = new [bool][1][0]; }`)
	s := func(text string) api.Value { return api.Value{Kind: api.ValText, Text: text} }
	b := func(n int64) api.Value { return api.Value{Kind: api.ValBool, Int: n} }
	r := func(n int64) api.Value { return api.Value{Kind: api.ValRef, Int: n} }
	for events, wanted := range map[int][][]api.Value{
		2:  {nil},
		3:  {nil, {s(""), s("")}},
		6:  {nil, {s(""), s("")}, {r(0)}},
		7:  {nil, {s(""), s("")}, {r(3)}, {b(0), b(0)}},
		9:  {nil, {s(""), s("x")}, {r(3)}, {b(0), b(0)}},
		11: {nil, {s(""), s("x")}, {r(3)}, {b(0), b(1)}},
		13: {nil, {s(""), s("x")}, {r(3)}, {b(0), b(1)}, nil},
		16: {nil, {s(""), s("x")}, {r(0)}, {b(0), b(1)}, nil, {r(0)}},
	} {
		run, errno := Run(p, nil, wide, events)
		if errno != api.OK || !sameArrays(run.Arrays, wanted) {
			t.Errorf("behind %d events %d, %v, want %v", events, errno, run.Arrays, wanted)
		}
	}
}

// A hook statement, and a return's number, do nothing; the events' nodes are those of the tree that is walked.
func TestHooked(t *testing.T) {
	const text = `fn f(x: int): int { @1; @2 x; @3; return @4 x; @5; } fn main() { @6; { @7; @7; } @8; if true { @9; print f(1); @1; } else if true { @2; } var y: int = 2; @3 y; for i = 1 to 1 { @1; continue; @2 i; } }`
	read, _ := parse.Program(text)
	p, problem := flow.Tree(read)
	if problem.Code != api.OK {
		t.Fatal(problem)
	}
	r, errno := Run(p, nil, wide, 99)
	p.Text = text
	if errno != api.OK || r.Output != "1\n" || r.Outcome.Phase != api.Ended {
		t.Fatalf("with hooks: %d, %v", errno, r)
	}
	if got := told(p, r.Events); got != "call main, enter, exit, stmt if, enter, stmt print, call f, set x x=1, stmt return, return=1, exit, stmt var, set var y=2, stmt for, enter, set for i=1, stmt continue, leave" {
		t.Errorf("with hooks: %s", got)
	}
}

// P11.1, P11.4: what may not be is refused, and in this order.
func TestRefused(t *testing.T) {
	p := front(t, ten)
	for what, row := range map[string]struct {
		p      api.Program
		input  []int64
		limits api.Limits
		errno  api.Errno
	}{
		"all that may be":      {p, make([]int64, 1000), api.Limits{Depth: 1000, Cells: 100000}, api.OK},
		"as little as may be":  {p, nil, api.Limits{Depth: 1}, api.OK},
		"the zero program":     {api.Program{}, nil, wide, api.ErrArg},
		"a text alone":         {api.Program{Text: ten}, nil, wide, api.ErrArg},
		"a tree alone":         {api.Program{Tree: p.Tree}, nil, wide, api.ErrArg},
		"no text":              {api.Program{Tree: p.Tree, Scoped: p.Scoped, Types: p.Types}, nil, wide, api.OK},
		"another text":         {api.Program{Text: "fn", Tree: p.Tree, Scoped: p.Scoped, Types: p.Types}, nil, wide, api.OK},
		"no types":             {api.Program{Tree: p.Tree, Scoped: p.Scoped}, nil, wide, api.ErrArg},
		"no meanings":          {api.Program{Tree: p.Tree, Types: p.Types}, nil, wide, api.ErrArg},
		"no depth":             {p, nil, api.Limits{Depth: 0, Cells: 1}, api.ErrArg},
		"a depth below":        {p, nil, api.Limits{Depth: math.MinInt, Cells: 1}, api.ErrArg},
		"a depth above":        {p, nil, api.Limits{Depth: 1001, Cells: 1}, api.ErrArg},
		"the greatest depth":   {p, nil, api.Limits{Depth: math.MaxInt, Cells: 1}, api.ErrArg},
		"cells below":          {p, nil, api.Limits{Depth: 1, Cells: -1}, api.ErrArg},
		"cells far below":      {p, nil, api.Limits{Depth: 1, Cells: math.MinInt}, api.ErrArg},
		"cells above":          {p, nil, api.Limits{Depth: 1, Cells: 100001}, api.ErrArg},
		"the most cells":       {p, nil, api.Limits{Depth: 1, Cells: math.MaxInt}, api.ErrArg},
		"too many numbers":     {p, make([]int64, 1001), wide, api.ErrArg},
		"far too many numbers": {p, make([]int64, 1<<20), wide, api.ErrArg},
	} {
		m, errno := New(row.p, row.input, row.limits)
		if errno != row.errno || (m == nil) != (errno != api.OK) {
			t.Errorf("%s: New: %d", what, errno)
		}
		for _, events := range []int{math.MinInt, -1, 0, 1, 20, api.MaxBudget, api.MaxBudget + 1, math.MaxInt} {
			wanted := row.errno
			if wanted == api.OK && events > 1000000 {
				wanted = api.ErrSize
			}
			r, errno := Run(row.p, row.input, row.limits, events)
			if errno != wanted {
				t.Errorf("%s, to event %d: %d", what, events, errno)
			}
			if errno != api.OK && (!sameRun(r, api.Run{}) || r.Arrays != nil) {
				t.Errorf("%s, to event %d: refused, but %v", what, events, r)
			}
		}
	}
}

// P11.1: a program in which anything else is said than the front says is no checked one.
func TestUnchecked(t *testing.T) {
	for what, change := range map[string]func(p *api.Program){
		"a node's size":          func(p *api.Program) { p.Tree.Nodes[0].Size++ },
		"a name":                 func(p *api.Program) { p.Tree.Nodes[6].Name = "b" },
		"the result":             func(p *api.Program) { p.Tree.Nodes[1].Type = "" },
		"a node too few":         func(p *api.Program) { p.Tree.Nodes = p.Tree.Nodes[:len(p.Tree.Nodes)-1] },
		"a node's slot":          func(p *api.Program) { p.Scoped.Slots[6]++ },
		"a call":                 func(p *api.Program) { p.Scoped.Calls[slices.Index(p.Scoped.Calls, 0)] = 1 },
		"a target":               func(p *api.Program) { p.Scoped.Targets[3] = 0 },
		"an owner":               func(p *api.Program) { p.Scoped.Owners[3] = 1 },
		"a function's slots":     func(p *api.Program) { p.Scoped.Funcs[1].Slots++ },
		"a function's variables": func(p *api.Program) { p.Scoped.Funcs[1].Vars = p.Scoped.Funcs[1].Vars[1:] },
		"functions swapped":      func(p *api.Program) { slices.Reverse(p.Scoped.Funcs) },
		"a type":                 func(p *api.Program) { p.Types[7] = "bool" },
		"a type of a statement":  func(p *api.Program) { p.Types[0] = "int" },
		"a type too many":        func(p *api.Program) { p.Types = append(p.Types, "") },
		"a type too few":         func(p *api.Program) { p.Types = p.Types[:len(p.Types)-1] },
		"a problem with names":   func(p *api.Program) { *p, _ = flow.Tree(p.Tree); p.Tree.Nodes[1].Name = "main" },
		"a lone expression":      func(p *api.Program) { p.Tree.Nodes = []api.Node{{Kind: api.KInt, Size: 1}} },
		"no nodes":               func(p *api.Program) { p.Tree.Nodes = nil },
		"many nodes of no kind":  func(p *api.Program) { p.Tree.Nodes = make([]api.Node, 100000) },
	} {
		p := front(t, ten)
		change(&p)
		if m, errno := New(p, nil, wide); m != nil || errno != api.ErrArg {
			t.Errorf("%s changed: New: %d", what, errno)
		}
		if r, errno := Run(p, nil, wide, 5); errno != api.ErrArg || !sameRun(r, api.Run{}) {
			t.Errorf("%s changed: Run: %d", what, errno)
		}
	}
	// A tree that is right in all but the ways.
	p := front(t, "fn f(): int { return 1; } fn main() { }")
	p.Tree.Nodes = slices.Delete(p.Tree.Nodes, 3, 5)
	p.Tree.Nodes[0].Size, p.Tree.Nodes[1].Size, p.Tree.Nodes[2].Size = 5, 2, 1
	if m, errno := New(p, nil, wide); m != nil || errno != api.ErrArg {
		t.Errorf("a way without return: %d", errno)
	}
}

// Lists that are empty may be nil or not.
func TestEmptyLists(t *testing.T) {
	p := front(t, "fn main() { }")
	p.Scoped.Funcs[0].Vars = []api.Var{}
	for _, input := range [][]int64{nil, {}} {
		if r, errno := Run(p, input, api.Limits{Depth: 1}, 9); errno != api.OK || r.Outcome.Phase != api.Ended || r.Steps != 2 || len(r.Arrays) != 1 || len(r.Arrays[0]) != 0 {
			t.Errorf("the empty program: %d, %v", errno, r)
		}
	}
}

// P11.10: a Machine that New did not make has nothing to do.
func TestNoWalk(t *testing.T) {
	var m Machine
	if r := m.Result(); r.Outcome != (api.Outcome{}) || r.Steps != 0 || r.Input != 0 || r.Output != "" {
		t.Errorf("nothing has come to %v", r)
	}
	for range 2 {
		if e, more := m.Step(); e != (api.Event{}) || more {
			t.Errorf("nothing goes on to %v", e)
		}
	}
	if r := m.Result(); r.Outcome.Phase != api.Ended {
		t.Errorf("nothing ended with %v", r)
	}
}
