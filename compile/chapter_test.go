package compile

import (
	"slices"
	"strings"
	"testing"

	"retrace/api"
	"retrace/code"
	"retrace/flow"
	"retrace/parse"
	"retrace/verify"
)

// program is a source's, hooks allowed.
func program(t *testing.T, text string) api.Program {
	t.Helper()
	read, problem := parse.Program(text)
	if problem.Code != api.OK {
		t.Fatalf("%q is refused: %v", text, problem)
	}
	return checked(t, read.Nodes)
}

func checked(t *testing.T, nodes []api.Node) api.Program {
	t.Helper()
	p, problem := flow.Tree(api.Tree{Nodes: nodes})
	if problem.Code != api.OK {
		t.Fatal(problem)
	}
	return p
}

// safe asks P15.5.
func safe(t *testing.T, what string, made api.Code) {
	t.Helper()
	if errno := code.Valid(made); errno != api.OK {
		t.Fatalf("P15.5: %s: may not be: %d", what, errno)
	}
	if errno, at := verify.Check(made); errno != api.OK {
		t.Fatalf("P15.5: %s: %d at %d", what, errno, at)
	}
}

// becomes holds the instructions of a source against those that are wanted, and the second writing against them too.
func becomes(t *testing.T, text, want string) api.Code {
	t.Helper()
	p := program(t, text)
	made, errno := Program(p)
	if got := told(made.Instrs); errno != api.OK || got != want {
		t.Errorf("%s: %d, %s, want %s", text, errno, got, want)
	}
	other, errno := wanted(p)
	if got := told(other.Instrs); errno != api.OK || got != want {
		t.Errorf("%s: the second writing: %d, %s, want %s", text, errno, got, want)
	}
	safe(t, text, made)
	return made
}

func sameEntry(a, b api.Entry) bool {
	return a.Name == b.Name && a.Start == b.Start && a.Params == b.Params && a.Result == b.Result && slices.Equal(a.Sorts, b.Sorts)
}

func same(a, b api.Code) bool {
	return a.Main == b.Main && slices.Equal(a.Instrs, b.Instrs) && slices.Equal(a.Texts, b.Texts) && slices.EqualFunc(a.Entrys, b.Entrys, sameEntry)
}

// has asks for entries, texts and Main.
func has(t *testing.T, made api.Code, main int, texts []string, entrys ...api.Entry) {
	t.Helper()
	if made.Main != main || !slices.Equal(made.Texts, texts) || !slices.EqualFunc(made.Entrys, entrys, sameEntry) {
		t.Errorf("%d, %q, %v, want %d, %q, %v", made.Main, made.Texts, made.Entrys, main, texts, entrys)
	}
}

// P15.2, P15.3: the chapter's examples.
func TestExamples(t *testing.T) {
	made := becomes(t, "fn main() { }", "done")
	has(t, made, 0, nil, api.Entry{Name: "main"})
	made = becomes(t, `fn main() { var x: int = 2; print x, "a", "a"; }`, "int 2, store 0, load 0, text 0, text 0, print 3, done")
	has(t, made, 0, []string{"a"}, api.Entry{Name: "main", Sorts: []api.Sort{1}})
	made = becomes(t, "fn f(a: [int]): int { return a[0]; } fn main() { f(new int[1]); }", "load 0, int 0, get, ret, jump 4, int 1, new 1, call 0, pop, done")
	has(t, made, 1, nil, api.Entry{Name: "f", Params: 1, Sorts: []api.Sort{5}, Result: 1}, api.Entry{Name: "main", Start: 5})
	becomes(t, "fn main() { if true { } else { } }", "bool 1, false 4, nop, jump 5, nop, done")
	made = becomes(t, "fn main() { for i = 1 to 2 { continue; } }", "int 1, store 1, int 2, store 2, load 1, load 2, bin 11, false 21, load 1, store 0, nop, jump 12, load 1, load 2, bin 10, false 21, load 1, int 1, bin 3, store 1, jump 8, done")
	has(t, made, 0, nil, api.Entry{Name: "main", Sorts: []api.Sort{1, 1, 1}})
	becomes(t, "fn main() { while true && false { break; } }", "bool 1, false 4, bool 0, jump 5, bool 0, false 9, nop, jump 9, jump 0, done")
	becomes(t, "fn main() { @1; var x: bool = 1 < 2; @2 x; return @3; }", "emit 1, int 1, int 2, bin 10, store 0, show 2 0, emit 3, done, done")
}

// P15.3: each line of the table, in a function that has variables ahead.
func TestLines(t *testing.T) {
	const begin = "fn f(x: int, y: bool, s: text, a: [int], g: [[int]]) { "
	for _, line := range []struct{ statement, want string }{
		{"", ""},
		{"print 0, 1, 9223372036854775807;", "int 0, int 1, int 9223372036854775807, print 3, "},
		{"print true, false;", "bool 1, bool 0, print 2, "},
		{`print "", "b", s;`, "text 0, text 1, load 2, print 3, "},
		{"print x, y;", "load 0, load 1, print 2, "},
		{"print 0, 1, 2, 3, 4, 5, 6, 7, 8, 9, 10, 11, 12, 13, 14, 15;", "int 0, int 1, int 2, int 3, int 4, int 5, int 6, int 7, int 8, int 9, int 10, int 11, int 12, int 13, int 14, int 15, print 16, "},
		{"print -x, !y, --1;", "load 0, un 1, load 1, un 2, int 1, un 1, un 1, print 3, "},
		{"print x + 1, x - 1, x * 1, x / 1, x % 1;", "load 0, int 1, bin 3, load 0, int 1, bin 4, load 0, int 1, bin 5, load 0, int 1, bin 6, load 0, int 1, bin 7, print 5, "},
		{"print x == 1, x != 1, x < 1, x <= 1, x > 1, x >= 1;", "load 0, int 1, bin 8, load 0, int 1, bin 9, load 0, int 1, bin 10, load 0, int 1, bin 11, load 0, int 1, bin 12, load 0, int 1, bin 13, print 6, "},
		{"print a == g[0], y != y, s + s, s < s;", "load 3, load 4, int 0, get, bin 8, load 1, load 1, bin 9, load 2, load 2, bin 3, load 2, load 2, bin 10, print 4, "},
		{"print 1 + 2 * 3 - 4;", "int 1, int 2, int 3, bin 5, bin 3, int 4, bin 4, print 1, "},
		{"print (1 - 2) - (3 - 4);", "int 1, int 2, bin 4, int 3, int 4, bin 4, bin 4, print 1, "},
		{"y = y && true;", "load 1, false 4, bool 1, jump 5, bool 0, store 1, "},
		{"y = y || false;", "load 1, false 4, bool 1, jump 5, bool 0, store 1, "},
		{"y = y || x < 1;", "load 1, false 4, bool 1, jump 7, load 0, int 1, bin 10, store 1, "},
		{"y = true && false && y;", "bool 1, false 4, bool 0, jump 5, bool 0, false 8, load 1, jump 9, bool 0, store 1, "},
		{"y = true && (false && y);", "bool 1, false 8, bool 0, false 6, load 1, jump 7, bool 0, jump 9, bool 0, store 1, "},
		{"y = true || false || y;", "bool 1, false 4, bool 1, jump 5, bool 0, false 8, bool 1, jump 9, load 1, store 1, "},
		{"print 1, y && true, y || false;", "int 1, load 1, false 5, bool 1, jump 6, bool 0, load 1, false 10, bool 1, jump 11, bool 0, print 3, "},
		{"print a[x], g[0][1], s[2], g[x][g[0][1]];", "load 3, load 0, get, load 4, int 0, get, int 1, get, load 2, int 2, get, load 4, load 0, get, load 4, int 0, get, int 1, get, get, print 4, "},
		{"print len(s), len(a), str(x), str(y), str(s);", "load 2, len, load 3, len, load 0, str, load 1, str, load 2, str, print 5, "},
		{"a = new int[x];", "load 0, new 1, store 3, "},
		{"g = new [int][len(g)];", "load 4, len, new 5, store 4, "},
		{"print len(new bool[1]), len(new text[1]), len(new [bool][1]), len(new [[[text]]][1]);", "int 1, new 2, len, int 1, new 3, len, int 1, new 6, len, int 1, new 15, len, print 4, "},
		{"{ }", "nop, "},
		{"{ { x = 1; } { } }", "nop, nop, int 1, store 0, nop, "},
		{"var v: bool = y; v = v;", "load 1, store 5, load 5, store 5, "},
		{"x = x;", "load 0, store 0, "},
		{"a[x] = 7;", "load 3, load 0, int 7, put, "},
		{"g[x] = a;", "load 4, load 0, load 3, put, "},
		{"g[x][1] = a[2];", "load 4, load 0, get, int 1, load 3, int 2, get, put, "},
		{"g[a[0]][a[1]] = 3;", "load 4, load 3, int 0, get, get, load 3, int 1, get, int 3, put, "},
		{"if y { x = 1; }", "load 1, false 5, nop, int 1, store 0, "},
		{"if y { x = 1; } else { x = 2; }", "load 1, false 6, nop, int 1, store 0, jump 9, nop, int 2, store 0, "},
		{"if y { } else if x < 1 { x = 1; }", "load 1, false 4, nop, jump 11, load 0, int 1, bin 10, false 11, nop, int 1, store 0, "},
		{"if y { } else if y { } else { }", "load 1, false 4, nop, jump 9, load 1, false 8, nop, jump 9, nop, "},
		{"while x < 3 { x = x + 1; }", "load 0, int 3, bin 10, false 10, nop, load 0, int 1, bin 3, store 0, jump 0, "},
		{"while y { continue; break; }", "load 1, false 6, nop, jump 0, jump 6, jump 0, "},
		{"while y { while y { break; continue; } continue; }", "load 1, false 11, nop, load 1, false 9, nop, jump 9, jump 3, jump 3, jump 0, jump 0, "},
		{"o: while y { i: while y { break o; continue o; break i; continue i; } }", "load 1, false 12, nop, load 1, false 11, nop, jump 12, jump 0, jump 11, jump 3, jump 3, jump 0, "},
		{"for i = x to 9 { print i; }", "load 0, store 6, int 9, store 7, load 6, load 7, bin 11, false 22, load 6, store 5, nop, load 5, print 1, load 6, load 7, bin 10, false 22, load 6, int 1, bin 3, store 6, jump 8, "},
		{"for x = x to x { x = x; break; }", "load 0, store 6, load 0, store 7, load 6, load 7, bin 11, false 23, load 6, store 5, nop, load 5, store 5, jump 23, load 6, load 7, bin 10, false 23, load 6, int 1, bin 3, store 6, jump 8, "},
		{"return;", "done, "},
		{"return; return @4; return;", "done, emit 4, done, done, "},
		{"read x;", "read, store 0, "},
		{"read a[x];", "load 3, load 0, read, put, "},
		{"read g[0][x + 1];", "load 4, int 0, get, load 0, int 1, bin 3, read, put, "},
		{"@7; @40000; @8 x; @9 g;", "emit 7, emit 40000, show 8 0, show 9 4, "},
	} {
		want := line.want + "done, done"
		becomes(t, begin+line.statement+" } fn main() { }", want)
	}
}

// P15.3: the slots of a for's counter and end lie behind all variables, in the order of the fors.
func TestHiddenSlots(t *testing.T) {
	made := becomes(t, "fn main() { for i = 0 to 1 { for j = 2 to 3 { } } var t: text = str(1); for k = 4 to 5 { } }",
		"int 0, store 4, int 1, store 5, load 4, load 5, bin 11, false 40, load 4, store 0, nop, "+
			"int 2, store 6, int 3, store 7, load 6, load 7, bin 11, false 31, load 6, store 1, nop, load 6, load 7, bin 10, false 31, load 6, int 1, bin 3, store 6, jump 19, "+
			"load 4, load 5, bin 10, false 40, load 4, int 1, bin 3, store 4, jump 8, "+
			"int 1, str, store 2, "+
			"int 4, store 8, int 5, store 9, load 8, load 9, bin 11, false 63, load 8, store 3, nop, load 8, load 9, bin 10, false 63, load 8, int 1, bin 3, store 8, jump 51, done")
	has(t, made, 0, nil, api.Entry{Name: "main", Sorts: []api.Sort{1, 1, 3, 1, 1, 1, 1, 1, 1, 1}})
	// Each function counts its own.
	made, _ = Program(program(t, "fn f(a: bool) { for i = 0 to 1 { } } fn main() { var b: [bool] = new bool[0]; for i = 0 to 1 { } }"))
	if made.Instrs[1].A != 2 || made.Instrs[3].A != 3 || told(made.Instrs[24:28]) != "int 0, store 2, int 1, store 3" {
		t.Errorf("hidden slots: %s", told(made.Instrs))
	}
	has(t, made, 1, nil, api.Entry{Name: "f", Params: 1, Sorts: []api.Sort{2, 1, 1, 1}}, api.Entry{Name: "main", Start: 21, Sorts: []api.Sort{6, 1, 1, 1}})
}

// P15.3: a continue of a for goes on with its counting, a break leaves it, from within other loops too.
func TestJumpsOut(t *testing.T) {
	becomes(t, "fn main() { o: for i = 0 to 1 { while true { if true { continue o; } break o; } } }",
		"int 0, store 1, int 1, store 2, load 1, load 2, bin 11, false 29, load 1, store 0, nop, "+
			"bool 1, false 20, nop, bool 1, false 18, nop, jump 20, jump 29, jump 11, "+
			"load 1, load 2, bin 10, false 29, load 1, int 1, bin 3, store 1, jump 8, done")
}

// P15.2, P15.3: calls, results, and the end of a function.
func TestFunctions(t *testing.T) {
	made := becomes(t, "fn none() { } fn one(a: int): int { return a; } fn two(a: text, b: [[text]]): [[text]] { if len(a) < 1 { return @3 b; } else { return two(a, b); } } fn main() { none(); one(one(1)); two(\"z\", new [text][2]); print one(2); return; }",
		"done, "+
			"load 0, ret, jump 3, "+
			"load 0, len, int 1, bin 10, false 14, nop, load 1, tell 3, ret, jump 19, nop, load 0, load 1, call 2, ret, jump 19, "+
			"call 0, int 1, call 1, call 1, pop, text 0, int 2, new 7, call 2, pop, int 2, call 1, print 1, done, done")
	has(t, made, 3, []string{"z"},
		api.Entry{Name: "none"},
		api.Entry{Name: "one", Start: 1, Params: 1, Sorts: []api.Sort{1}, Result: 1},
		api.Entry{Name: "two", Start: 4, Params: 2, Sorts: []api.Sort{3, 11}, Result: 11},
		api.Entry{Name: "main", Start: 20})
	// Main may stand anywhere and be called.
	made = becomes(t, "fn main() { main(); f(true); } fn f(a: bool): bool { return f(a); }", "call 0, bool 1, call 1, pop, done, load 0, call 1, ret, jump 8")
	has(t, made, 0, nil, api.Entry{Name: "main"}, api.Entry{Name: "f", Start: 5, Params: 1, Sorts: []api.Sort{2}, Result: 2})
}

// P15.2: texts are pooled over all functions, also those that no way leads to.
func TestTexts(t *testing.T) {
	made := becomes(t, `fn f(): text { return "b"; } fn main() { return; print "a", "b", "", "a", "\x00", "b" + "c"; f(); }`,
		"text 0, ret, jump 2, done, text 1, text 0, text 2, text 1, text 3, text 0, text 4, bin 3, print 6, call 0, pop, done")
	has(t, made, 1, []string{"b", "a", "", "\x00", "c"}, api.Entry{Name: "f", Result: 3}, api.Entry{Name: "main", Start: 3})
}

// The document's example of the whole.
func TestWhole(t *testing.T) {
	becomes(t, strings.ReplaceAll(`fn add(a: int, b: int): int {
  return a + b;
}
fn main() {
  var x: int = 2;
  read x;
  var a: [int] = new int[x];
  a[1] = add(x, 40);
  print x, a[1], "ok";
}`, "\n", " "),
		"load 0, load 1, bin 3, ret, jump 4, int 2, store 0, read, store 0, load 0, new 1, store 1, load 1, int 1, load 0, int 40, call 0, put, load 0, load 1, int 1, get, text 0, print 3, done")
}
