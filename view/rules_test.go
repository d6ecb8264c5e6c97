package view

import (
	"strings"
	"testing"

	"retrace/api"
)

// with is an event with another name.
func with(e api.Event, name string) api.Event {
	e.Name = name
	return e
}

// holding is an event with another value.
func holding(e api.Event, v api.Value) api.Event {
	e.Value = v
	return e
}

// noValues are values that fit no type and may not be, and some that fit one.
func noValues() []api.Value {
	return []api.Value{{Int: 1}, {Text: "x"}, {Int: -1, Text: "x"}, {Kind: 5}, {Kind: -1}, i(0), b(0), x(""), r(0)}
}

// P18.2, EvCall: of main as the first, of any function behind a statement; with its own name and no value.
func TestCalls(t *testing.T) {
	// 0 program, 1 g, 2 body, 3 main, 4 body, 5 do, 6 g(), 7 do, 8 main(), 9 h, 10 a, 11 body
	const text = "fn g() { } fn main() { g(); main(); } fn h(a: int) { }"
	first := []row{no("", call(1, "g")), no("", call(9, "h")), no("", call(3, "")), no("", call(3, "g")), no("", call(3, "main ")), no("", call(4, "main")), no("", call(0, "main")), no("", call(6, "g")), no("", call(-1, "main")), no("", call(12, "main"))}
	for _, v := range noValues() {
		first = append(first, no("", holding(call(3, "main"), v)))
	}
	goes(t, text, append(first,
		yes("1 at 0", call(3, "main")),
		no("1 at 0", call(3, "main")), no("1 at 0", call(1, "g")),
		yes("1 at 5", stmt(5)),
		no("1 at 5", holding(call(1, "g"), i(1))), no("1 at 5", call(1, "h")), no("1 at 5", call(9, "g")), no("1 at 5", call(2, "g")),
		yes("0 at 0; 1 at 5", call(1, "g")),
		no("0 at 0; 1 at 5", call(3, "main")),
		yes("1 at 5", leave(1)),
		yes("2 at 0; 1 at 5", call(9, "h")), // whether it is what the statement calls, is not asked
		no("2 at 0; 1 at 5", leave(9)), no("2 at 0; 1 at 5", leave(3)),
		yes("2 at 0 a0=4; 1 at 5", set(10, "a", i(4))),
		yes("1 at 5", leave(9)),
		yes("1 at 0; 1 at 5", call(3, "main")),
		no("1 at 0; 1 at 5", call(3, "main")),
		yes("1 at 7; 1 at 5", stmt(7)),
		yes("1 at 0; 1 at 7; 1 at 5", call(3, "main")),
		yes("1 at 5", leave(3), leave(3)),
		yes("", leave(3)),
		no("", call(3, "main")),
	)...)
}

// P18.2, EvSet of a KParam: one behind the other, each of its own type, ahead of all else.
func TestParameters(t *testing.T) {
	// 0 program, 1 f, 2 a, 3 b, 4 c, 5 body, 6 block, 7 print, 8 the 1, 9 g, 10 a, 11 body, 12 main, 13 body, 14 print, 15 the 1
	const text = "fn f(a: int, b: text, c: [bool]) { { print 1; } } fn g(a: int) { } fn main() { print 1; }"
	const rest = "; 2 at 14"
	rows := []row{yes("2 at 14", call(12, "main"), stmt(14)), no("2 at 14", set(2, "a", i(1))), yes("0 at 0"+rest, call(1, "f"))}
	refused := func(frames string, events ...api.Event) {
		for _, e := range append(events, stmt(7), stmt(6), enter(6), exit(6), exit(5), leave(1), call(9, "g"), back(7, api.Value{}), touch(2, "a", i(1))) {
			rows = append(rows, no(frames, e))
		}
	}
	refused("0 at 0"+rest, set(10, "a", i(1)), set(3, "b", x("")), set(4, "c", r(0)), set(2, "b", i(1)), set(2, "", i(1)), set(2, "a", b(0)), set(2, "a", x("")), set(2, "a", r(1)), set(2, "a", api.Value{}), set(2, "a", api.Value{Kind: api.ValInt, Text: "x"}))
	rows = append(rows, yes("0 at 0 a0=-5"+rest, set(2, "a", i(-5))))
	refused("0 at 0 a0=-5"+rest, set(2, "a", i(1)), set(4, "c", r(0)), set(3, "b", x(strings.Repeat("x", 257))), set(3, "b", api.Value{Kind: api.ValText, Int: 1}), set(3, "a", x("")), set(3, "b", i(1)))
	long := strings.Repeat("x", 256)
	rows = append(rows, yes(`0 at 0 a0=-5 b1="`+long+`"`+rest, set(3, "b", x(long))))
	refused(`0 at 0 a0=-5 b1="`+long+`"`+rest, set(3, "b", x("")), set(4, "c", r(-1)), set(4, "c", api.Value{Kind: api.ValRef, Text: "x"}), set(4, "c", b(1)), set(4, "c", i(0)))
	all := `0 at 0 a0=-5 b1="` + long + `" c2=#0` + rest
	rows = append(rows, yes(all, set(4, "c", r(0))), no(all, set(4, "c", r(0))), no(all, set(2, "a", i(1))), no(all, set(10, "a", i(1))), no(all, call(9, "g")),
		yes(all, enter(6)), no(all, set(4, "c", r(0))), no(all, call(9, "g")), yes(strings.Replace(all, "at 0", "at 7", 1), stmt(7)), no(strings.Replace(all, "at 0", "at 7", 1), set(2, "a", i(1))),
		yes(strings.Replace(all, "at 0", "at 7", 1), exit(6)), yes("2 at 14", leave(1)))
	goes(t, text, rows...)
}

// P18.2, EvSet of a KVar: behind its own statement, once in an open block, whatever lies open within it.
func TestDeclarations(t *testing.T) {
	// 0 program, 1 main, 2 body, 3 var a, 4 the 1, 5 block, 6 var c, 7 the 3, 8 var b, 9 the true
	const text = "fn main() { var a: int = 1; { var c: int = 3; } var b: bool = true; }"
	goes(t, text,
		yes("0 at 0", call(1, "main")), no("0 at 0", set(3, "a", i(1))), no("0 at 0", stmt(6)),
		yes("0 at 8", stmt(8)), no("0 at 8", set(3, "a", i(1))), no("0 at 8", set(8, "a", b(1))), no("0 at 8", set(8, "b", i(1))), no("0 at 8", set(8, "b", b(2))), no("0 at 8", set(8, "b", b(-1))), no("0 at 8", set(8, "", b(1))), no("0 at 8", set(8, "b", api.Value{})), no("0 at 8", touch(8, "b", b(1))), no("0 at 8", set(9, "b", b(1))),
		yes("0 at 8 b2=true", set(8, "b", b(1))), no("0 at 8 b2=true", set(8, "b", b(1))), no("0 at 8 b2=true", set(8, "b", b(0))),
		yes("0 at 3 b2=true", stmt(3)),
		yes("0 at 3 b2=true", enter(5)),               // another block is open when it comes
		yes("0 at 3 b2=true a0=7", set(3, "a", i(7))), // in the order in which they came
		no("0 at 3 b2=true a0=7", exit(5)),            // it has come to its own block
		yes("0 at 6 b2=true a0=7", enter(5), stmt(6)),
		yes("0 at 6 b2=true a0=7 c1=1", set(6, "c", i(1))),
		no("0 at 6 b2=true a0=7 c1=1", set(6, "c", i(2))),
		yes("0 at 6 b2=true a0=7", exit(5)), no("0 at 6 b2=true a0=7", set(6, "c", i(1))),
		yes("0 at 6 b2=true a0=7", enter(5)), // the block is opened anew: its variable is to be set again
		yes("0 at 6 b2=true a0=7 c1=2", set(6, "c", i(2))),
		yes("0 at 6 b2=true a0=7", enter(5)),
		yes("0 at 6 b2=true a0=7 c1=3", set(6, "c", i(3))),
		yes("0 at 8 b2=true a0=7", stmt(8)), no("0 at 8 b2=true a0=7", set(8, "b", b(1))),
		yes("", leave(1)),
	)
}

// P18.2, EvSet of a KFor: in its own block, which is the last open one, ahead of all else in it.
func TestTurns(t *testing.T) {
	// 0 program, 1 main, 2 body, 3 for i, 4 the 1, 5 the 2, 6 block, 7 for k, 8 the 1, 9 the 2, 10 block, 11 print, 12 i, 13 block, 14 print, 15 i
	const text = "fn main() { for i = 1 to 2 { for k = 1 to 2 { print i; } { print i; } } }"
	goes(t, text,
		yes("0 at 0", call(1, "main")), no("0 at 0", set(3, "i", i(1))),
		yes("0 at 0", enter(6)), // a statement is not asked for
		no("0 at 0", stmt(7)), no("0 at 0", enter(10)), no("0 at 0", enter(13)), no("0 at 0", exit(6)), no("0 at 0", set(7, "k", i(1))), no("0 at 0", set(3, "k", i(1))), no("0 at 0", set(3, "", i(1))), no("0 at 0", set(3, "i", b(1))), no("0 at 0", set(3, "i", api.Value{})), no("0 at 0", set(6, "i", i(1))), no("0 at 0", touch(3, "i", i(1))), no("0 at 0", call(1, "main")),
		yes("0 at 0 i0=5", set(3, "i", i(5))), no("0 at 0 i0=5", set(3, "i", i(6))), no("0 at 0 i0=5", call(1, "main")),
		yes("0 at 0 i0=5", enter(10)), no("0 at 0 i0=5", set(3, "i", i(6))), no("0 at 0 i0=5", exit(10)), yes("0 at 0", enter(6), set(3, "i", i(7)), enter(10), enter(6)),
		yes("0 at 0 i0=7", set(3, "i", i(7))),
		yes("0 at 0 i0=7 k1=1", enter(10), set(7, "k", i(1))), no("0 at 0 i0=7 k1=1", set(7, "k", i(2))), no("0 at 0 i0=7 k1=1", set(3, "i", i(2))),
		yes("0 at 11 i0=7 k1=1", stmt(11)),
		yes("0 at 11 i0=7", enter(10)), no("0 at 11 i0=7", stmt(11)), yes("0 at 7 i0=7", stmt(7)), no("0 at 7 i0=7", set(7, "k", i(1))),
		yes("0 at 7 i0=7", enter(10), enter(13)), no("0 at 7 i0=7", set(7, "k", i(1))), no("0 at 7 i0=7", set(3, "i", i(1))),
		yes("0 at 7", exit(6)), no("0 at 7", set(3, "i", i(1))), no("0 at 7", exit(6)), no("0 at 7", stmt(7)),
		yes("0 at 3", stmt(3)), no("0 at 3", set(3, "i", i(1))),
		yes("", leave(1)),
	)
}

// P18.2: the block of a for that is opened anew is ready by the for's own variable alone, not by one that is declared in it.
func TestTurnsAnew(t *testing.T) {
	// 0 program, 1 main, 2 body, 3 for j, 4 the 1, 5 the 2, 6 block, 7 var a, 8 the 1, 9 block
	const text = "fn main() { for j = 1 to 2 { var a: int = 1; { } } }"
	goes(t, text,
		yes("0 at 7 j0=1", call(1, "main"), stmt(3), enter(6), set(3, "j", i(1)), stmt(7)),
		yes("0 at 7", enter(6)), yes("0 at 7 a1=5", set(7, "a", i(5))),
		no("0 at 7 a1=5", stmt(7)), no("0 at 7 a1=5", enter(9)), no("0 at 7 a1=5", exit(6)), no("0 at 7 a1=5", set(3, "j", i(2))), no("0 at 7 a1=5", set(7, "a", i(5))),
		yes("0 at 7 j0=2", enter(6), set(3, "j", i(2))), yes("0 at 7 j0=2 a1=6", set(7, "a", i(6))), no("0 at 7 j0=2 a1=6", set(3, "j", i(2))),
		yes("0 at 7 j0=2 a1=6", enter(9)), yes("0 at 7 j0=2 a1=6", exit(9)), yes("0 at 7", exit(6)), yes("", leave(1)),
	)
}

// P18.2, EvSet of a KAssign and a KRead of a name: behind its own statement, with the variable it means.
func TestAssignments(t *testing.T) {
	// 0 program, 1 main, 2 body, 3 var x, 4 the 1, 5 block, 6 x = 2, 7 x, 8 the 2, 9 var x, 10 "", 11 x = "a", 12 x, 13 "a", 14 var y, 15 the 1, 16 read y, 17 y
	const text = `fn main() { var x: int = 1; { x = 2; var x: text = ""; x = "a"; } var y: int = 1; read y; }`
	goes(t, text,
		yes("0 at 0", call(1, "main"), enter(5)), yes("0 at 6", stmt(6)), no("0 at 6", set(6, "x", i(1))),
		yes("0 at 3", stmt(3)), yes("0 at 3 x0=1", set(3, "x", i(1))),
		yes("0 at 6 x0=1", enter(5), stmt(6)),
		no("0 at 6 x0=1", set(6, "x", x(""))), no("0 at 6 x0=1", set(6, "y", i(1))), no("0 at 6 x0=1", set(6, "", i(1))), no("0 at 6 x0=1", set(7, "x", i(1))), no("0 at 6 x0=1", touch(6, "x", i(1))), no("0 at 6 x0=1", set(6, "x", api.Value{})), no("0 at 6 x0=1", set(11, "x", x(""))), no("0 at 6 x0=1", set(6, "x", api.Value{Kind: api.ValInt, Int: 1, Text: "x"})),
		yes("0 at 6 x0=2", set(6, "x", i(2))), yes("0 at 6 x0=3", set(6, "x", i(3))), // how often, is not asked
		yes("0 at 9 x0=3", stmt(9)), yes("0 at 11 x0=3", stmt(11)), no("0 at 11 x0=3", set(11, "x", x("a"))), // means the inner one, which is not set
		yes(`0 at 9 x1="b"`, stmt(9), set(9, "x", x("b"))), no(`0 at 9 x1="b"`, set(11, "x", x("a"))),
		yes(`0 at 6 x1="b"`, stmt(6)), yes(`0 at 6 x1="b"`, set(6, "x", i(9))), // the outer one, which is hidden
		yes(`0 at 11 x1="b"`, stmt(11)), no(`0 at 11 x1="b"`, set(11, "x", i(9))), yes(`0 at 11 x1="a"`, set(11, "x", x("a"))),
		yes("0 at 11 x0=9", exit(5)), no("0 at 11 x0=9", set(11, "x", x("a"))), yes("0 at 11 x0=9", enter(5)), no("0 at 11 x0=9", set(11, "x", x("a"))), yes("0 at 6 x0=9", stmt(6), exit(5)), no("0 at 6 x0=9", set(6, "x", i(1))),
		yes("0 at 16 x0=9", stmt(16)), no("0 at 16 x0=9", set(16, "y", i(1))), no("0 at 16 x0=9", set(16, "x", i(1))),
		yes("0 at 14 x0=9 y2=1", stmt(14), set(14, "y", i(1))),
		yes("0 at 16 x0=9 y2=1", stmt(16), enter(5)), no("0 at 16 x0=9 y2=1", set(16, "y", b(1))), no("0 at 16 x0=9 y2=1", touch(16, "y", i(1))),
		yes("0 at 16 x0=9 y2=-1", set(16, "y", i(-1))), no("0 at 16 x0=9 y2=-1", exit(5)), // it has come to its own block
		yes("0 at 6 x0=9 y2=-1", enter(5), stmt(6), set(6, "x", i(9))), yes("0 at 6 x0=9 y2=-1", exit(5)),
	)
}

// P18.2, EvTouch: behind its own statement, with what the variable at the root holds.
func TestTouches(t *testing.T) {
	// 0 program, 1 main, 2 body, 3 var g, 4 new, 5 the 1, 6 block, 7 assign, 8 index, 9 index, 10 g, 11 the 0, 12 the 0, 13 the 5, 14 read, 15 index, 16 index, 17 g, 18 the 0, 19 the 0, 20 g = new, 21 g, 22 new, 23 the 1, 24 if, 25 the true, 26 block
	const text = "fn main() { var g: [[int]] = new [int][1]; { g[0][0] = 5; read g[0][0]; g = new [int][1]; } if true { } }"
	goes(t, text,
		yes("0 at 0", call(1, "main"), enter(6)), yes("0 at 7", stmt(7)), no("0 at 7", touch(7, "g", r(0))), no("0 at 7", touch(7, "g", api.Value{})),
		yes("0 at 3 g0=#4", stmt(3), set(3, "g", r(4))), no("0 at 3 g0=#4", touch(7, "g", r(4))),
		yes("0 at 7 g0=#4", enter(6), stmt(7)),
		no("0 at 7 g0=#4", touch(7, "g", r(3))), no("0 at 7 g0=#4", touch(7, "g", i(4))), no("0 at 7 g0=#4", touch(7, "g", api.Value{Kind: api.ValRef, Int: 4, Text: "x"})), no("0 at 7 g0=#4", touch(7, "g", api.Value{})), no("0 at 7 g0=#4", touch(7, "", r(4))), no("0 at 7 g0=#4", touch(7, "h", r(4))), no("0 at 7 g0=#4", set(7, "g", r(4))), no("0 at 7 g0=#4", set(7, "g", i(4))), no("0 at 7 g0=#4", touch(14, "g", r(4))), no("0 at 7 g0=#4", touch(8, "g", r(4))), no("0 at 7 g0=#4", touch(20, "g", r(4))), no("0 at 7 g0=#4", touch(3, "g", r(4))),
		yes("0 at 7 g0=#4", touch(7, "g", r(4))), yes("0 at 7 g0=#4", touch(7, "g", r(4))),
		yes("0 at 14 g0=#4", stmt(14)), no("0 at 14 g0=#4", set(14, "g", r(4))), no("0 at 14 g0=#4", touch(14, "g", r(5))), yes("0 at 14 g0=#4", touch(14, "g", r(4))),
		yes("0 at 20 g0=#9", stmt(20), set(20, "g", r(9))), no("0 at 20 g0=#9", touch(20, "g", r(9))),
		yes("0 at 14 g0=#9", stmt(14)), no("0 at 14 g0=#9", touch(14, "g", r(4))), yes("0 at 14 g0=#9", touch(14, "g", r(9))),
		yes("0 at 14 g0=#9", exit(6)), no("0 at 14 g0=#9", touch(14, "g", r(9))), yes("0 at 14 g0=#9", enter(6), touch(14, "g", r(9))),
		yes("0 at 14 g0=#9", enter(26)), no("0 at 14 g0=#9", touch(14, "g", r(9))), no("0 at 14 g0=#9", exit(6)), yes("0 at 14 g0=#9", exit(26)),
	)
}

// P18.2, EvTouch: what was open within its block is closed.
func TestTouchCloses(t *testing.T) {
	// 0 program, 1 main, 2 body, 3 var g, 4 new, 5 the 1, 6 assign, 7 index, 8 g, 9 the 0, 10 the 5, 11 block, 12 var g, 13 new, 14 the 1
	const text = "fn main() { var g: [int] = new int[1]; g[0] = 5; { var g: [int] = new int[1]; } }"
	goes(t, text,
		yes("0 at 12 g1=#2", call(1, "main"), stmt(3), set(3, "g", r(1)), enter(11), stmt(12), set(12, "g", r(2))),
		yes("0 at 6 g0=#1", stmt(6)), yes("0 at 6 g0=#1", enter(11)), no("0 at 6 g0=#1", touch(6, "g", r(2))),
		yes("0 at 6 g0=#1", touch(6, "g", r(1))), no("0 at 6 g0=#1", exit(11)),
		yes("", leave(1)),
	)
}

// P18.2, EvStmt: statements in an open block that is ready: no blocks, no hooks, no ifs behind an else.
func TestStatements(t *testing.T) {
	// 0 program, 1 main, 2 body, 3 if, 4 the true, 5 block, 6 if, 7 the true, 8 block, 9 print, 10 the 1, 11 while, 12 the true, 13 block, 14 break, 15 continue, 16 return, 17 g(), 18 g(), 19 block, 20 g, 21 body
	const text = "fn main() { if true { } else if true { print 1; } while true { break; continue; return; g(); } { } } fn g() { }"
	rows := []row{yes("0 at 0", call(1, "main"))}
	for _, n := range []int{-1, 0, 1, 2, 4, 5, 6, 7, 8, 9, 10, 12, 13, 14, 15, 16, 17, 18, 19, 20, 21, 22, 1 << 62, -1 << 63} {
		rows = append(rows, no("0 at 0", stmt(n)))
	}
	rows = append(rows, no("0 at 0", with(stmt(3), "x")), no("0 at 0", with(stmt(3), "main")))
	for _, v := range noValues() {
		rows = append(rows, no("0 at 0", holding(stmt(3), v)))
	}
	goes(t, text, append(rows,
		yes("0 at 3", stmt(3)), yes("0 at 3", stmt(3)), no("0 at 3", stmt(6)),
		yes("0 at 3", enter(8)), no("0 at 3", stmt(6)), yes("0 at 9", stmt(9)), // a block's if need not have begun
		yes("0 at 11", stmt(11)), no("0 at 11", stmt(9)), no("0 at 11", exit(8)),
		yes("0 at 17", enter(13), stmt(14), stmt(15), stmt(16), stmt(17)), no("0 at 17", stmt(13)),
		yes("1 at 0; 0 at 17", call(20, "g")), no("1 at 0; 0 at 17", stmt(17)), no("1 at 0; 0 at 17", stmt(3)), no("1 at 0; 0 at 17", enter(13)), no("1 at 0; 0 at 17", exit(13)),
		yes("0 at 17", leave(20)), yes("0 at 17", exit(13)), no("0 at 17", exit(13)),
	)...)
}

// P18.2, EvEnter and EvExit: blocks that are no bodies, within one that is open and ready.
func TestBlocks(t *testing.T) {
	// 0 program, 1 main, 2 body, 3 block, 4 block, 5 print, 6 the 1, 7 block, 8 g, 9 body, 10 block
	const text = "fn main() { { { print 1; } { } } } fn g() { { } }"
	rows := []row{yes("0 at 0", call(1, "main"))}
	for _, n := range []int{-1, 0, 1, 2, 4, 5, 6, 7, 8, 9, 10, 11} {
		rows = append(rows, no("0 at 0", enter(n)), no("0 at 0", exit(n)))
	}
	rows = append(rows, no("0 at 0", exit(3)), no("0 at 0", with(enter(3), "x")))
	for _, v := range noValues() {
		rows = append(rows, no("0 at 0", holding(enter(3), v)))
	}
	rows = append(rows, yes("0 at 0", enter(3)), no("0 at 0", exit(4)), no("0 at 0", with(exit(3), "x")))
	for _, v := range noValues() {
		rows = append(rows, no("0 at 0", holding(exit(3), v)))
	}
	goes(t, text, append(rows,
		yes("0 at 0", enter(4)), yes("0 at 0", exit(3)), no("0 at 0", exit(4)), no("0 at 0", stmt(5)), no("0 at 0", enter(4)),
		yes("0 at 0", enter(3)), no("0 at 0", exit(4)), no("0 at 0", stmt(5)),
		yes("0 at 5", enter(7), enter(4), stmt(5)), no("0 at 5", exit(7)), yes("0 at 5", exit(4)), no("0 at 5", exit(4)), yes("0 at 5", exit(3)), no("0 at 5", exit(2)),
		yes("", leave(1)),
	)...)
}

// P18.2, EvReturn: of the return that is being done, with a value of the result's type.
func TestReturns(t *testing.T) {
	// 0 program, 1 main, 2 body, 3 block, 4 return, 5 do, 6 f(), 7 f, 8 body, 9 if, 10 the true, 11 block, 12 return, 13 "a", 14 return, 15 "b"
	const text = `fn main() { { return; } f(); } fn f(): text { if true { return "a"; } return "b"; }`
	rows := []row{
		yes("0 at 0", call(1, "main")), no("0 at 0", back(4, api.Value{})), no("0 at 0", back(0, api.Value{})),
		yes("1 at 0; 0 at 5", stmt(5), call(7, "f")), no("1 at 0; 0 at 5", leave(7)), no("1 at 0; 0 at 5", back(14, x("b"))),
		yes("1 at 12; 0 at 5", stmt(9), enter(11), stmt(12)), no("1 at 12; 0 at 5", leave(7)), no("1 at 12; 0 at 5", back(14, x("b"))), no("1 at 12; 0 at 5", back(13, x("a"))), no("1 at 12; 0 at 5", back(12, i(1))), no("1 at 12; 0 at 5", back(12, api.Value{})), no("1 at 12; 0 at 5", back(12, x(strings.Repeat("x", 257)))), no("1 at 12; 0 at 5", with(back(12, x("a")), "x")), no("1 at 12; 0 at 5", with(back(12, x("a")), "f")), no("1 at 12; 0 at 5", api.Event{Kind: api.EvReturn, Node: 7, Value: x("a")}),
		yes("1 at 12; 0 at 5", enter(11)), yes("1 at 12; 0 at 5", exit(11)),
		yes("0 at 5", back(12, x("other"))), // its block need not be open any more, nor is its value asked for
		no("0 at 5", back(12, x("a"))), no("0 at 5", back(5, api.Value{})),
		yes("0 at 4", enter(3), stmt(4)),
	}
	for _, v := range noValues() {
		rows = append(rows, no("0 at 4", back(4, v)))
	}
	goes(t, text, append(rows, no("0 at 4", with(back(4, api.Value{}), "main")), yes("", back(4, api.Value{})), no("", back(4, api.Value{})))...)
}

// P18.2, EvLeave: of the frame's own function, if it has no result and its parameters are set.
func TestLeaves(t *testing.T) {
	// 0 program, 1 main, 2 body, 3 var x, 4 the 1, 5 block, 6 f, 7 a, 8 body
	const text = "fn main() { var x: int = 1; { } } fn f(a: int) { }"
	rows := []row{no("", leave(1)), yes("0 at 0", call(1, "main"))}
	for _, n := range []int{-1, 0, 2, 3, 4, 5, 6, 7, 8, 9} {
		rows = append(rows, no("0 at 0", leave(n)))
	}
	for _, v := range noValues() {
		rows = append(rows, no("0 at 0", holding(leave(1), v)))
	}
	goes(t, text, append(rows, no("0 at 0", with(leave(1), "main")),
		yes("0 at 3", stmt(3), enter(5)), // wherever it is
		yes("1 at 0; 0 at 3", call(6, "f")), no("1 at 0; 0 at 3", leave(1)), no("1 at 0; 0 at 3", leave(6)),
		yes("1 at 0 a0=0; 0 at 3", set(7, "a", i(0))), no("1 at 0 a0=0; 0 at 3", leave(1)),
		yes("0 at 3", leave(6)), no("0 at 3", leave(6)), yes("0 at 3", exit(5)), // what is open in a frame stays so, while another one is the innermost
		yes("", leave(1)), no("", leave(1)), no("", leave(6)),
	)...)
}

// P18.2: kinds that are none.
func TestNoKinds(t *testing.T) {
	for _, kind := range []api.EventKind{0, 9, 10, -1, 255, 256 + 1, 1 << 32, 1<<32 + 4, -1 << 63, 1<<63 - 1} {
		goes(t, example,
			no("", api.Event{Kind: kind, Node: 6, Name: "main"}), yes("1 at 0", call(6, "main")),
			no("1 at 0", api.Event{Kind: kind, Node: 8}), no("1 at 0", api.Event{Kind: kind, Node: 6}),
			yes("1 at 8", stmt(8)), no("1 at 8", api.Event{Kind: kind, Node: 8, Name: "x", Value: i(1)}),
		)
	}
}

// P18.2: frames of one function have their own variables, blocks and statements.
func TestFramesApart(t *testing.T) {
	// 0 program, 1 f, 2 n, 3 body, 4 block, 5 var k, 6 n, 7 do, 8 f(k), 9 k, 10 main, 11 body, 12 do, 13 f(2), 14 the 2
	const text = "fn f(n: int) { { var k: int = n; f(k); } } fn main() { f(2); }"
	goes(t, text,
		yes("0 at 7 n0=2 k1=2; 1 at 12", call(10, "main"), stmt(12), call(1, "f"), set(2, "n", i(2)), enter(4), stmt(5), set(5, "k", i(2)), stmt(7)),
		yes("0 at 0; 0 at 7 n0=2 k1=2; 1 at 12", call(1, "f")),
		no("0 at 0; 0 at 7 n0=2 k1=2; 1 at 12", exit(4)), no("0 at 0; 0 at 7 n0=2 k1=2; 1 at 12", stmt(7)), no("0 at 0; 0 at 7 n0=2 k1=2; 1 at 12", set(5, "k", i(1))),
		yes("0 at 0 n0=1; 0 at 7 n0=2 k1=2; 1 at 12", set(2, "n", i(1))),
		no("0 at 0 n0=1; 0 at 7 n0=2 k1=2; 1 at 12", exit(4)), no("0 at 0 n0=1; 0 at 7 n0=2 k1=2; 1 at 12", set(5, "k", i(1))),
		yes("0 at 5 n0=1 k1=1; 0 at 7 n0=2 k1=2; 1 at 12", enter(4), stmt(5), set(5, "k", i(1))),
		yes("0 at 7 n0=2 k1=2; 1 at 12", leave(1)),
		yes("0 at 7 n0=2; 1 at 12", exit(4)),
		yes("1 at 12", leave(1)), yes("", leave(10)),
	)
}
