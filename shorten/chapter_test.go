package shorten

import (
	"strings"
	"testing"

	"retrace/alike"
	"retrace/api"
	"retrace/code"
	"retrace/verify"
)

// call is one of the four.
type call struct {
	name string
	do   func(api.Code) (api.Code, api.Errno)
}

func calls() []call {
	return []call{{"Fold", Fold}, {"Thread", Thread}, {"Sweep", Sweep}, {"Shorten", Shorten}}
}

// assembled is the code of chapter 13's text, `;` for line feeds; truths may be numbers.
func assembled(t testing.TB, text string) api.Code {
	t.Helper()
	words := strings.NewReplacer(";", "\n", "bool 1", "bool true", "bool 0", "bool false")
	c, errno, line := code.Assemble(words.Replace(text))
	if errno != api.OK {
		t.Fatalf("%q: line %d", text, line)
	}
	return c
}

// mainOf is the code of one function, main, with two slots of the sort 1.
func mainOf(t testing.TB, instrs string) api.Code {
	t.Helper()
	return assembled(t, "main 0;fn main 0 - int int;"+instrs)
}

// told is a code in one line.
func told(c api.Code) string {
	text, errno := code.Print(c)
	if errno != api.OK {
		return "no code"
	}
	return strings.ReplaceAll(strings.TrimSpace(text), "\n", ";")
}

// gives asks that one of the four makes that of a code.
func gives(t *testing.T, promise string, do func(api.Code) (api.Code, api.Errno), c, want api.Code) {
	t.Helper()
	d, errno := do(c)
	if errno != api.OK || !alike.Code(d, want) {
		t.Errorf("%s: of %s: %s, %d, want %s", promise, told(c), told(d), errno, told(want))
	}
	holds(t, c)
}

// The chapter's examples.
func TestExamples(t *testing.T) {
	for _, c := range []struct {
		promise   string
		do        func(api.Code) (api.Code, api.Errno)
		was, want string
	}{
		{"P27.2", Fold, "int 2; int 3; bin *; int 1; bin +; un -; print 1; done", "int -7; print 1; done"},
		{"P27.2", Fold, "int 1; int 0; bin /; pop; done", "int 1; int 0; bin /; pop; done"},
		{"P27.2", Fold, "bool 1; false 4; int 5; pop; done", "done"},
		{"P27.2", Fold, "bool 1; un !; false 4; emit 7; done", "jump 2; emit 7; done"},
		{"P27.2", Fold, "load 0; store 0; load 0; store 1; done", "load 0; store 1; done"},
		{"P27.2", Fold, "read; store 0; int 1; load 0; pop; int 2; bin +; print 1; done", "read; store 0; int 3; print 1; done"},
		{"P27.2", Fold, "load 0; int 1; bin ==; false 6; int 1; jump 7; int 2; int 3; bin +; print 1; done", "load 0; int 1; bin ==; false 6; int 1; jump 7; int 2; int 3; bin +; print 1; done"},
		{"P27.3", Thread, "jump 1; jump 3; done; jump 2; done", "done; done; done; done; done"},
		{"P27.3", Thread, "jump 1; jump 0", "jump 1; jump 0"},
		{"P27.3", Thread, "bool 1; false 3; done; jump 3; done", "bool 1; false 3; done; jump 3; done"},
		{"P27.4", Sweep, "nop; jump 3; emit 1; nop; emit 2; done", "emit 2; done"},
		{"P27.4", Sweep, "jump 1; jump 0", "jump 0"},
		{"P27.5", Shorten, "nop; bool 0; false 4; emit 1; jump 6; emit 2; nop; done", "done"},
	} {
		gives(t, c.promise, c.do, mainOf(t, c.was), mainOf(t, c.want))
	}
	for _, one := range calls() {
		if d, errno := one.do(mainOf(t, "pop; done")); errno != api.ErrArg || !isZero(d) {
			t.Errorf("P27.1: %s of pop; done: %s, %d", one.name, told(d), errno)
		}
	}
}

// isZero tells whether a code is the zero one.
func isZero(c api.Code) bool {
	return c.Instrs == nil && c.Entrys == nil && c.Texts == nil && c.Main == 0
}

// P27.2: each row of the table, and what is just none of them.
func TestRows(t *testing.T) {
	const numbers = "read; store 0; " // what cannot be known ahead of the run
	for _, c := range []struct{ was, want string }{
		{"int 5; un -; print 1; done", "int -5; print 1; done"},
		{"int -9223372036854775808; un -; print 1; done", "int -9223372036854775808; print 1; done"},
		{"bool 1; un !; print 1; done", "bool 0; print 1; done"},
		{"bool 0; un !; print 1; done", "bool 1; print 1; done"},
		{"int 9223372036854775807; int 1; bin +; print 1; done", "int -9223372036854775808; print 1; done"},
		{"int 1; int 2; bin -; print 1; done", "int -1; print 1; done"},
		{"int 4611686018427387904; int 2; bin *; print 1; done", "int -9223372036854775808; print 1; done"},
		{"int -7; int 2; bin /; print 1; done", "int -3; print 1; done"},
		{"int -7; int 2; bin %; print 1; done", "int -1; print 1; done"},
		{"int -9223372036854775808; int -1; bin /; print 1; done", "int -9223372036854775808; print 1; done"},
		{"int 1; int 0; bin %; pop; done", "int 1; int 0; bin %; pop; done"},
		{"int 1; int 2; bin ==; print 1; done", "bool 0; print 1; done"},
		{"bool 1; bool 1; bin ==; print 1; done", "bool 1; print 1; done"},
		{"bool 1; bool 1; bin !=; print 1; done", "bool 0; print 1; done"},
		{"int 1; int 2; bin <; print 1; done", "bool 1; print 1; done"},
		{"int 2; int 2; bin <=; print 1; done", "bool 1; print 1; done"},
		{"int 2; int 2; bin >; print 1; done", "bool 0; print 1; done"},
		{"int 1; int 2; bin >=; print 1; done", "bool 0; print 1; done"},
		{"int 1; int 2; int 3; bin *; bin +; print 1; done", "int 7; print 1; done"},
		{numbers + "load 0; un -; print 1; done", numbers + "load 0; un -; print 1; done"},
		{numbers + "load 0; int 1; bin +; print 1; done", numbers + "load 0; int 1; bin +; print 1; done"},
		{numbers + "int 1; load 0; bin +; print 1; done", numbers + "int 1; load 0; bin +; print 1; done"},
		{"int 1; str; pop; done", "int 1; str; pop; done"},
		{"bool 1; false 0; done", "done"},
		{"bool 0; false 3; emit 1; done", "jump 2; emit 1; done"},
		{"bool 0; false 0; done", "jump 0; done"},
		{"bool 0; emit 1; false 4; emit 2; done", "bool 0; emit 1; false 4; emit 2; done"},
		{"int 1; pop; bool 0; pop; load 1; pop; done", "done"},
		{"read; pop; done", "read; pop; done"},
		{"int 1; int 2; pop; pop; done", "done"},
		{"int 1; tell 3; pop; done", "int 1; tell 3; pop; done"},
		{"load 1; store 1; done", "done"},
		{"load 0; store 1; done", "load 0; store 1; done"},
		{"int 1; store 0; load 0; store 0; done", "int 1; store 0; done"},
		{"int 1; store 0; load 0; pop; done", "int 1; store 0; done"},
		{"int 1; load 0; store 0; pop; done", "done"},
	} {
		gives(t, "P27.2", Fold, mainOf(t, c.was), mainOf(t, c.want))
	}
	const pool = "main 0;pool \"a\";fn main 0 - text text;"
	gives(t, "P27.2", Fold, assembled(t, pool+"text 0; pop; text 0; text 0; bin +; pop; done"), assembled(t, pool+"text 0; text 0; bin +; pop; done"))
	gives(t, "P27.2", Fold, assembled(t, pool+"text 0; text 0; bin ==; pop; done"), assembled(t, pool+"text 0; text 0; bin ==; pop; done"))
}

// P27.2: a jump to the first of a pattern leaves it one, a jump to any other does not; when the jump is gone, it is one.
func TestNamed(t *testing.T) {
	for _, c := range []struct{ was, want string }{
		// To the first one, which goes on standing, or which the next one stands for.
		{"load 0; int 0; bin ==; false 4; int 2; un -; print 1; done", "load 0; int 0; bin ==; false 4; int -2; print 1; done"},
		{"load 0; int 0; bin ==; false 4; int 2; pop; emit 1; done", "load 0; int 0; bin ==; false 4; emit 1; done"},
		{"emit 1; int 2; pop; load 0; store 0; jump 1", "emit 1; jump 1"},
		{"emit 1; int 2; int 3; bin +; print 1; jump 1", "emit 1; int 5; print 1; jump 1"},
		// To the second one, or the third.
		{"bool 1; load 0; int 0; bin ==; false 6; jump 6; un !; print 1; done", "bool 1; load 0; int 0; bin ==; false 6; jump 6; un !; print 1; done"},
		{"int 2; jump 2; pop; done", "int 2; jump 2; pop; done"},
		{"int 2; pop; int 3; jump 5; int 7; pop; done", "int 3; jump 3; int 7; pop; done"},
		{"jump 2; done; int 1; int 2; bin +; pop; done; int 4; int 5; jump 4", "jump 2; done; int 1; int 2; bin +; pop; done; int 4; int 5; jump 4"},
		{"jump 2; done; int 1; int 2; bin +; pop; done; int 4; jump 3", "jump 2; done; int 1; int 2; bin +; pop; done; int 4; jump 3"},
		// What named one that is taken out names the next one, and that may be within another pattern.
		{"int 1; jump 4; int 1; jump 4; int 5; pop; pop; done", "int 1; jump 4; int 1; jump 4; pop; done"},
		{"int 1; int 5; pop; pop; done", "done"},
		// The jump that names it is gone, ahead of it or behind it.
		{"done; bool 1; false 5; bool 0; bool 0; un !; pop; pop; done", "done; done"},
		{"done; bool 1; bool 1; un !; bool 1; false 3; pop; pop; jump 0", "done; jump 0"},
		{"bool 1; jump 2; false 5; bool 1; jump 2; done", "bool 1; jump 2; false 5; bool 1; jump 2; done"},
		// The own one.
		{"done; bool 1; false 2; done", "done; bool 1; false 2; done"},
		{"done; bool 0; false 2; done", "done; bool 0; false 2; done"},
		{"load 0; bool 0; false 1; done", "load 0; jump 1; done"},
	} {
		gives(t, "P27.2", Fold, mainOf(t, c.was), mainOf(t, c.want))
	}
}

// P27.2: a pattern stands in one function's piece alone.
func TestPieces(t *testing.T) {
	const f, g = "main 0;fn main 0 - int int;", "fn g 0 - int int;"
	for _, c := range []struct{ was, want string }{
		{f + "done;int 1;" + g + "un -;done", ""},
		{f + "done;load 0;" + g + "store 0;done", ""},
		{f + "done;int 1;" + g + "int 2;bin +;print 1;done", ""},
		{f + "done;int 1;int 1;" + g + "bin +;pop;done", ""},
	} {
		if errno, _ := verify.Check(assembled(t, c.was)); errno == api.OK {
			t.Errorf("%q is safe", c.was)
		}
	}
	// The instructions at the begin of a piece are safe only behind a jump over them.
	for _, c := range []struct{ was, want string }{
		{f + "done;int 1;" + g + "jump 4;un -;done", f + "done;int 1;" + g + "jump 4;un -;done"},
		{f + "jump 2;int 3;done;load 0;" + g + "int 1;int 2;bin +;print 1;done", f + "jump 2;int 3;done;load 0;" + g + "int 3;print 1;done"},
		{f + "done;int 3;" + g + "int 3;pop;done", f + "done;int 3;" + g + "done"},
		{f + "done;bool 1;" + g + "nop;done", f + "done;bool 1;" + g + "nop;done"},
		{f + "int 3;pop;done;int 3;" + g + "load 1;pop;load 1;pop;done", f + "done;int 3;" + g + "done"},
		{f + "done;int 4;int 5;pop;" + g + "load 1;store 1;jump 6", f + "done;int 4;" + g + "jump 2"},
	} {
		gives(t, "P27.2", Fold, assembled(t, c.was), assembled(t, c.want))
	}
}

// P27.3: chains, their ends, and what has none.
func TestChains(t *testing.T) {
	for _, c := range []struct{ was, want string }{
		{"jump 1; emit 1; done", "jump 1; emit 1; done"},
		{"jump 2; done; emit 1; done", "jump 2; done; emit 1; done"},
		{"jump 3; emit 1; done; jump 1", "jump 1; emit 1; done; jump 1"},
		{"jump 2; done; jump 3; jump 4; emit 1; jump 1", "jump 4; done; jump 4; jump 4; emit 1; done"},
		{"load 0; int 0; bin ==; false 5; done; jump 6; emit 1; done", "load 0; int 0; bin ==; false 6; done; jump 6; emit 1; done"},
		{"load 0; int 0; bin ==; false 5; done; jump 6; done", "load 0; int 0; bin ==; false 6; done; done; done"},
		{"jump 0", "jump 0"},
		{"jump 2; done; jump 3; jump 2", "jump 2; done; jump 3; jump 2"},
		{"load 0; int 0; bin ==; false 5; done; jump 5", "load 0; int 0; bin ==; false 5; done; jump 5"},
		// To the number of no instruction: no chain begins there, but one may end at such a jump.
		{"done; jump 9", "done; jump 9"},
		{"done; jump 2; jump 3", "done; jump 2; jump 3"},
		{"done; jump 2; jump 59999; jump 1; false 1; false 4; false 5", "done; jump 2; jump 59999; jump 2; false 2; false 4; false 5"},
		{"done; jump 0; false 0; false 1", "done; done; false 0; false 0"},
	} {
		gives(t, "P27.3", Thread, mainOf(t, c.was), mainOf(t, c.want))
	}
	const value = "main 1;fn f 0 int int;"
	const rest = ";fn main 0 -;call 0;pop;done"
	gives(t, "P27.3", Thread, assembled(t, value+"int 1;jump 2;jump 3;ret"+rest), assembled(t, value+"int 1;ret;ret;ret"+rest))
	// In what no way leads to a chain may go from one function to another.
	gives(t, "P27.3", Thread, assembled(t, value+"int 1;ret;jump 5;jump 3"+rest+";jump 2"), assembled(t, value+"int 1;ret;jump 5;jump 3"+rest+";jump 5"))
	gives(t, "P27.3", Thread, assembled(t, value+"int 1;ret;jump 6"+rest+";jump 1"), assembled(t, value+"int 1;ret;ret"+rest+";ret"))
}

// P27.4: what no way leads to, nop, and jumps to the next instruction.
func TestSwept(t *testing.T) {
	for _, c := range []struct{ was, want string }{
		{"nop; nop; done; nop", "done"},
		{"jump 1; jump 2; jump 3; done", "done"},
		{"jump 3; jump 4; done; jump 1; done", "jump 2; jump 3; jump 1; done"},
		{"jump 2; done; emit 1; jump 1", "jump 2; done; emit 1; jump 1"},
		{"jump 2; done; nop; jump 1", "jump 2; done; jump 1"},
		{"jump 2; emit 1; done", "done"},
		{"nop; jump 0", "jump 0"},
		{"jump 1; nop; jump 0", "jump 0"},
		{"jump 0; done", "jump 0"},
		{"load 0; int 0; bin ==; false 4; done", "load 0; int 0; bin ==; false 4; done"},
		{"load 0; int 0; bin ==; false 5; nop; done", "load 0; int 0; bin ==; false 4; done"},
		{"load 0; int 0; bin ==; false 6; nop; jump 7; nop; done", "load 0; int 0; bin ==; false 4; done"},
		{"load 0; int 0; bin ==; false 6; emit 1; jump 7; emit 2; done; emit 3", "load 0; int 0; bin ==; false 6; emit 1; jump 7; emit 2; done"},
		{"done; jump 59999; false 59999", "done"},
	} {
		gives(t, "P27.4", Sweep, mainOf(t, c.was), mainOf(t, c.want))
	}
	gives(t, "P27.4", Sweep,
		assembled(t, "main 1;fn f 1 int int;nop;load 0;jump 3;ret;nop;fn main 0 -;jump 6;int 1;call 0;pop;done;done;fn g 0 -;nop;jump 12;nop;jump 11"),
		assembled(t, "main 1;fn f 1 int int;load 0;ret;fn main 0 -;int 1;call 0;pop;done;fn g 0 -;jump 6"))
}

// P27.5: what one pass makes possible the next one does, in any order, also in the next round.
func TestRounds(t *testing.T) {
	for _, c := range []struct{ was, want string }{
		{"bool 1; jump 2; un !; jump 4; un !; print 1; done", "bool 1; print 1; done"},
		{"bool 1; false 4; bool 1; jump 5; bool 0; false 7; emit 1; done", "emit 1; done"},
		{"bool 1; false 4; bool 0; jump 5; bool 0; false 7; emit 1; done", "done"},
		{"bool 0; false 4; bool 1; jump 5; bool 0; false 8; emit 1; jump 9; emit 2; done", "emit 2; done"},
		{"bool 1; false 4; nop; jump 0; done", "jump 0"},
		{"int 1; jump 3; done; jump 4; int 2; nop; bin +; print 1; jump 2", "int 3; print 1; done"},
		{"load 0; int 0; bin ==; false 7; int 1; pop; jump 9; nop; jump 9; done", "load 0; int 0; bin ==; false 5; done; done"},
		{"done", "done"},
	} {
		gives(t, "P27.5", Shorten, mainOf(t, c.was), mainOf(t, c.want))
	}
}

// P27.1: the texts, Main and the functions stay, also what nothing names.
func TestStays(t *testing.T) {
	c := assembled(t, "main 2;pool \"unused\";pool \"\";pool \"unused\";fn unused 2 [int] text [int] bool;nop;jump 2;load 1;new int;jump 5;ret;fn two 0 -;nop;done;fn main 0 - [[text]];text 1;pop;nop;done")
	c.Instrs[2] = api.Instr{Op: api.InInt, A: 3}
	want := assembled(t, "main 2;pool \"unused\";pool \"\";pool \"unused\";fn unused 2 [int] text [int] bool;int 3;new int;ret;fn two 0 -;done;fn main 0 - [[text]];done")
	gives(t, "P27.1", Shorten, c, want)
	for _, one := range calls() {
		if d, _ := one.do(c); len(d.Texts) != 3 || d.Main != 2 || len(d.Entrys) != 3 || d.Entrys[0].Params != 2 {
			t.Errorf("P27.1: %s: %s", one.name, told(d))
		}
	}
}
