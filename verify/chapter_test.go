package verify

import (
	"slices"
	"strings"
	"testing"

	"retrace/api"
	"retrace/code"
)

// assembled is the code of chapter 13's text, `;` for line feeds.
func assembled(t *testing.T, text string) api.Code {
	t.Helper()
	c, errno, line := code.Assemble(strings.ReplaceAll(text, ";", "\n"))
	if errno != api.OK {
		t.Fatalf("%q: line %d", text, line)
	}
	return c
}

// mainOf is the code of one function, main, with these slots.
func mainOf(t *testing.T, slots, instrs string) api.Code {
	t.Helper()
	return assembled(t, "main 0;fn main 0 - "+slots+";"+instrs)
}

// answers asks that a code is checked so.
func answers(t *testing.T, c api.Code, want api.Errno, wantAt int) {
	t.Helper()
	if errno, at := Check(c); errno != want || at != wantAt {
		t.Errorf("Check of %s = %d, %d, want %d, %d", told(c), errno, at, want, wantAt)
	}
	holds(t, c)
}

// stacked asks that a code is safe, with these stacks.
func stacked(t *testing.T, c api.Code, want [][]api.Sort) {
	t.Helper()
	answers(t, c, api.OK, 0)
	stacks, _ := Stacks(c)
	if !slices.EqualFunc(stacks, want, func(a, b []api.Sort) bool { return (a == nil) == (b == nil) && slices.Equal(a, b) }) {
		t.Errorf("Stacks of %s = %v, want %v", told(c), stacks, want)
	}
}

// The chapter's examples.
func TestExamples(t *testing.T) {
	for _, c := range []struct {
		slots, instrs string
		errno         api.Errno
		at            int
	}{
		{"", "int 1; print 1; done", api.OK, 0},
		{"int", "read; store 0; load 0; false 6; nop; jump 2; done", api.ErrKind, 3},
		{"bool", "load 0; false 4; int 1; jump 0; done", api.ErrStack, 3},
		{"", "int 1", api.ErrEnd, 0},
		{"", "jump 1; done; done", api.OK, 0},
		{"", "jump 5; done", api.ErrJump, 0},
		{"", "text 0; print 1; done", api.ErrSlot, 0},
		{"", "load 0; pop; done", api.ErrSlot, 0},
		{"", "call 1; done", api.ErrSlot, 0},
		{"", "int 3; new [int]; int 0; get; len; print 1; done", api.OK, 0},
		{"", "int 3; new int; int 0; int 7; put; done", api.OK, 0},
		{"", "int 3; new int; int 0; bool true; put; done", api.ErrKind, 4},
		{"", "pop; done", api.ErrStack, 0},
		{"", "int 1; ret", api.ErrKind, 1},
		{"", "tell 1; done", api.ErrStack, 0},
		{"", "int 1; bool true; bin ==; pop; done", api.ErrKind, 2},
		{"", "int 1; int 2; bin <; pop; done", api.OK, 0},
	} {
		answers(t, mainOf(t, c.slots, c.instrs), c.errno, c.at)
	}
}

func TestExampleStacks(t *testing.T) {
	c := mainOf(t, "", "int 1; print 1; done")
	stacked(t, c, [][]api.Sort{{}, {1}, {}})
	if high, errno := High(c, 0); high != 1 || errno != api.OK {
		t.Errorf("High: %d, %d", high, errno)
	}
	stacked(t, mainOf(t, "", "jump 1; done; done"), [][]api.Sort{{}, {}, nil})
	stacked(t, mainOf(t, "", "int 3; new [int]; int 0; get; len; print 1; done"), [][]api.Sort{{}, {1}, {9}, {9, 1}, {5}, {1}, {}})
}

// P14.1: the errors of code.Valid come first, told at 0; then Main's.
func TestCodesThatMayNotBe(t *testing.T) {
	answers(t, api.Code{}, api.ErrCode, 0)
	many := mainOf(t, "", "pop; done")
	many.Entrys = slices.Repeat(many.Entrys, 61)
	answers(t, many, api.ErrSize, 0)
	long := mainOf(t, "", "pop; done")
	long.Instrs = slices.Repeat(long.Instrs, 30001)
	answers(t, long, api.ErrSize, 0)
	for _, spoil := range []func(*api.Code){
		func(c *api.Code) { c.Main = 2 }, func(c *api.Code) { c.Main = -1 }, func(c *api.Code) { c.Instrs[1].A = -1 }, func(c *api.Code) { c.Instrs[4].Op = 24 }, func(c *api.Code) { c.Entrys[1].Start = 0 }, func(c *api.Code) { c.Entrys[0].Start = 1 }, func(c *api.Code) { c.Entrys[1].Sorts[0] = 4 }, func(c *api.Code) { c.Entrys[1].Params = 2 }, func(c *api.Code) { c.Entrys[1].Result = 20 }, func(c *api.Code) { c.Entrys[1].Name = "" },
	} {
		c := assembled(t, "main 1;fn f 0 int;pop;jump 9;fn main 1 - int;nop;int 1;done")
		answers(t, c, api.ErrKind, 2)
		spoil(&c)
		answers(t, c, api.ErrCode, 0)
	}
}

// P14.1: a Main that cannot be begun is told at its Start, ahead of all that is wrong of instructions.
func TestMain(t *testing.T) {
	for text, at := range map[string]int{
		"main 0;fn main 1 - int;done": 0, "main 0;fn main 0 int;int 1;ret": 0, "main 0;fn main 1 int int;load 0;ret": 0, "main 0;fn main 0 [text] [text];load 0;ret": 0,
		"main 1;fn f 0 -;pop;fn main 1 - int;done": 1, "main 1;fn f 0 -;done;done;fn main 0 bool;pop;fn g 0 -;done": 2, "main 2;fn f 0 -;nop;fn g 0 -;nop;nop;fn h 0 [bool];nop": 3,
	} {
		answers(t, assembled(t, text), api.ErrKind, at)
	}
	// A slot that is no parameter is none's business.
	answers(t, assembled(t, "main 1;fn f 2 int int bool;load 0;ret;fn main 0 - int bool;done"), api.OK, 0)
}

// P14.1: which error is the first one, of an instruction that has several, and of several that have some.
func TestFirst(t *testing.T) {
	for text, want := range map[string]struct {
		errno api.Errno
		at    int
	}{
		// What is named, ahead of what is taken.
		"main 0;fn main 0 -;store 0;done":      {api.ErrSlot, 0},
		"main 0;fn main 0 - int;store 0;done":  {api.ErrStack, 0},
		"main 0;fn main 0 - int;show 1 1":      {api.ErrSlot, 0},
		"main 0;fn main 0 - int;show 1 0":      {api.ErrEnd, 0},
		"main 0;fn main 0 -;call 1":            {api.ErrSlot, 0},
		"main 0;fn main 0 -;call 0":            {api.ErrEnd, 0},
		"main 0;fn main 0 -;text 0":            {api.ErrSlot, 0},
		"main 0;pool \"\";fn main 0 -;text 0":  {api.ErrEnd, 0},
		"main 0;pool \"\";fn main 0 -;text 1":  {api.ErrSlot, 0},
		"main 0;fn main 0 -;load 0":            {api.ErrSlot, 0},
		"main 0;fn main 0 - int;load 0":        {api.ErrEnd, 0},
		"main 0;fn main 0 - int int;load 2":    {api.ErrSlot, 0},
		"main 0;fn main 0 -;done;fn f 0 -;nop": {api.ErrEnd, 1},
		// How many are taken, ahead of their sorts, and these ahead of where it goes on.
		"main 0;fn main 0 -;bool true;bin +":                                   {api.ErrStack, 1},
		"main 0;fn main 0 -;bool true;bool true;bin +":                         {api.ErrKind, 2},
		"main 0;fn main 0 -;bool true;bool true;put":                           {api.ErrStack, 2},
		"main 0;fn main 0 -;bool true;bool true;bool true;put":                 {api.ErrKind, 3},
		"main 0;fn main 0 - text;load 0;int 1;int 2;put;done":                  {api.ErrKind, 3},
		"main 0;fn main 0 -;bool true;get":                                     {api.ErrStack, 1},
		"main 0;fn main 0 - [int];load 0;print 2":                              {api.ErrStack, 1},
		"main 0;fn main 0 - [int];load 0;load 0;print 2":                       {api.ErrKind, 2},
		"main 0;fn main 0 -;int 1;call 1;fn f 2 - bool bool;done":              {api.ErrStack, 1},
		"main 0;fn main 0 -;int 1;int 1;call 1;fn f 2 - bool bool;done":        {api.ErrKind, 2},
		"main 0;fn main 0 -;bool true;bool true;call 1;fn f 2 - bool bool;nop": {api.ErrEnd, 2},
		"main 0;fn main 0 -;false 9":                                           {api.ErrStack, 0},
		"main 0;fn main 0 -;int 1;false 9":                                     {api.ErrKind, 1},
		// The next one ahead of the one that is named.
		"main 0;fn main 0 -;bool true;false 9":                    {api.ErrEnd, 1},
		"main 0;fn main 0 -;bool true;false 0":                    {api.ErrEnd, 1},
		"main 0;fn main 0 -;bool true;false 2":                    {api.ErrEnd, 1},
		"main 0;fn main 0 -;bool true;false 3;done":               {api.ErrJump, 1},
		"main 0;fn main 0 -;bool true;false 59999;done":           {api.ErrJump, 1},
		"main 0;fn main 0 -;jump 1":                               {api.ErrJump, 0},
		"main 0;fn main 0 -;jump 1;fn f 0 -;done":                 {api.ErrJump, 0},
		"main 1;fn f 0 -;done;fn main 0 -;jump 0":                 {api.ErrJump, 1},
		"main 0;fn main 0 -;nop;fn f 0 -;done":                    {api.ErrEnd, 0},
		"main 1;fn f 0 -;nop;nop;fn main 0 -;done":                {api.ErrEnd, 1},
		"main 0;fn main 0 -;bool true;false 2;int 1":              {api.ErrEnd, 2},
		"main 1;fn f 0 -;done;fn main 0 -;bool true;false 0;done": {api.ErrJump, 2},
		// The functions in their order, whichever is Main.
		"main 0;fn main 0 -;pop;fn f 0 -;load 0":        {api.ErrStack, 0},
		"main 1;fn f 0 -;load 0;fn main 0 -;pop":        {api.ErrSlot, 0},
		"main 1;fn f 0 -;done;fn main 0 -;pop":          {api.ErrStack, 1},
		"main 0;fn main 0 -;done;fn f 0 -;pop":          {api.ErrStack, 1},
		"main 0;fn main 0 -;done;fn f 1 - int;pop":      {api.ErrStack, 1},
		"main 0;fn main 0 -;done;fn f 0 int;int 1;done": {api.ErrKind, 2},
		// The least number is looked at first, forward and back.
		"main 0;fn main 0 -;jump 2;pop;jump 1":                                {api.ErrStack, 1},
		"main 0;fn main 0 -;jump 3;load 0;pop;jump 1;":                        {api.ErrSlot, 1},
		"main 0;fn main 0 -;bool true;false 3;pop;load 0":                     {api.ErrStack, 2},
		"main 0;fn main 0 -;bool true;false 4;jump 5;pop;load 0;pop":          {api.ErrSlot, 4},
		"main 0;fn main 0 -;jump 4;pop;jump 1;pop;bool true;false 3;jump 2":   {api.ErrStack, 3},
		"main 0;fn main 0 -;jump 5;pop;pop;pop;done;bool true;false 3;jump 2": {api.ErrStack, 3},
		// Another height, ahead of another sort; the first stack that came is the one that is known.
		"main 0;fn main 0 -;bool true;false 4;int 1;jump 5;bool true;pop;done":       {api.ErrKind, 4},
		"main 0;fn main 0 -;bool true;false 4;int 1;jump 5;nop;pop;done":             {api.ErrStack, 4},
		"main 0;fn main 0 -;bool true;false 5;int 1;int 1;jump 6;bool true;pop;done": {api.ErrStack, 5},
		"main 0;fn main 0 - bool;load 0;load 0;load 0;false 5;int 1;int 1;done":      {api.ErrStack, 4},
		"main 0;fn main 0 -;int 1;int 2;int 3;jump 1":                                {api.ErrStack, 3},
		"main 0;fn main 0 -;int 1;pop;bool true;jump 1":                              {api.ErrKind, 3},
		"main 0;fn main 0 -;int 1;pop;int 2;jump 1":                                  {api.OK, 0},
		"main 0;fn main 0 -;jump 0":                                                  {api.OK, 0},
		"main 0;fn main 0 -;bool true;false 1;done":                                  {api.ErrStack, 1},
		"main 0;fn main 0 -;bool true;bool false;false 1;done":                       {api.OK, 0},
	} {
		answers(t, assembled(t, text), want.errno, want.at)
	}
}

// What is recovered and is no refusal goes on.
func TestOtherPanics(t *testing.T) {
	defer func() {
		if cause := recover(); cause != "other" {
			t.Errorf("recovered: %v", cause)
		}
	}()
	errno, at := reasonOf("other")
	t.Errorf("read as %d, %d", errno, at)
}
