package compile

import (
	"slices"
	"strconv"
	"testing"

	"retrace/api"
)

func under(node api.Node, kids ...[]api.Node) []api.Node {
	nodes := []api.Node{node}
	for _, kid := range kids {
		nodes = append(nodes, kid...)
	}
	nodes[0].Size = len(nodes)
	return nodes
}

func leaf(kind api.Kind, n int64) []api.Node {
	return []api.Node{{Kind: kind, Int: n, Size: 1}}
}

// repeated is so many parts of one form around one another: ahead is the outer part's nodes ahead of the inner one, behind those behind it; its first node is around all, its last one ahead, if that is a block, around the inner one alone.
func repeated(count int, ahead, behind, inner []api.Node) []api.Node {
	var nodes []api.Node
	for range count {
		nodes = append(nodes, ahead...)
	}
	nodes = append(nodes, inner...)
	for i := count - 1; i >= 0; i-- {
		first := i * len(ahead)
		last := first + len(ahead) - 1
		if last > first && nodes[last].Kind == api.KBlock {
			nodes[last].Size = len(nodes) - last
		}
		nodes = append(nodes, behind...)
		nodes[first].Size = len(nodes) - first
	}
	return nodes
}

func function(name, typing string, statements ...[]api.Node) []api.Node {
	return under(api.Node{Kind: api.KFunc, Name: name, Type: typing}, under(api.Node{Kind: api.KBlock}, statements...))
}

func functions(t *testing.T, all ...[]api.Node) api.Program {
	t.Helper()
	return checked(t, under(api.Node{Kind: api.KProgram}, all...))
}

func mainOf(t *testing.T, statements ...[]api.Node) api.Program {
	t.Helper()
	return functions(t, function("main", "", statements...))
}

func printed(values ...[]api.Node) []api.Node {
	return under(api.Node{Kind: api.KPrint}, values...)
}

// tower is an int that needs so many values on the stack at once.
func tower(high int) []api.Node {
	return repeated(high-1, []api.Node{{Kind: api.KBinary, Op: api.OpAdd}, {Kind: api.KInt, Int: 1, Size: 1}}, nil, leaf(api.KInt, 1))
}

// chain is a bool of so many operators, each the left side of the next one: four instructions each, and one.
func chain(count int, op api.Op) []api.Node {
	return repeated(count, []api.Node{{Kind: api.KBinary, Op: op}}, leaf(api.KBool, 0), leaf(api.KBool, 1))
}

// answers asks for an error, or for none, and that the second writing says the same.
func answers(t *testing.T, what string, p api.Program, want api.Errno) {
	t.Helper()
	made, errno := Program(p)
	if errno != want {
		t.Fatalf("%s: %d, want %d", what, errno, want)
	}
	if errno != api.OK && !same(made, api.Code{}) {
		t.Fatalf("%s: %d and a code", what, errno)
	}
	holds(t, p, what)
}

// count asks that a code has so many instructions, or is refused if those are too many.
func count(t *testing.T, what string, p api.Program, want int) {
	t.Helper()
	made, errno := Program(p)
	if want > 60000 {
		if errno != api.ErrSize || len(made.Instrs) > 0 || len(made.Entrys) > 0 || len(made.Texts) > 0 || made.Main != 0 {
			t.Fatalf("%s: %d instructions: %d", what, want, errno)
		}
		return
	}
	if errno != api.OK || len(made.Instrs) != want {
		t.Fatalf("%s: %d, %d instructions, want %d", what, errno, len(made.Instrs), want)
	}
	safe(t, what, made)
}

// P15.1: MaxInstrs instructions, and one more.
func TestManyInstructions(t *testing.T) {
	for _, op := range []api.Op{api.OpAnd, api.OpOr} {
		for more := range 4 {
			statements := [][]api.Node{printed(chain(14999, op))}
			for range more {
				statements = append(statements, under(api.Node{Kind: api.KBlock}))
			}
			count(t, "a chain", mainOf(t, statements...), 1+4*14999+1+more+1)
		}
	}
	// The last one is a function's end, an emit, a jump.
	full := printed(chain(14999, api.OpAnd)) // 59998
	nothing := function("f", "")
	number := function("f", "int", under(api.Node{Kind: api.KReturn}, leaf(api.KInt, 1)))
	hook := []api.Node{{Kind: api.KHook, Int: 7, Size: 1}}
	count(t, "a function behind", functions(t, function("main", "", full), nothing), 60000)
	count(t, "an emit and a function behind", functions(t, function("main", "", full, hook), nothing), 60001)
	count(t, "an emit", mainOf(t, full, hook), 60000)
	count(t, "two emits", mainOf(t, full, hook, hook), 60001)
	full = printed(chain(14998, api.OpAnd)) // 59994
	count(t, "a function with a result", functions(t, function("main", "", full, hook, hook), number), 60000)
	count(t, "a function with a result, one more", functions(t, function("main", "", full, hook, hook, hook), number), 60001)
	count(t, "a function with a result ahead", functions(t, number, function("main", "", full, hook, hook)), 60000)
	count(t, "a function with a result ahead, one more", functions(t, number, function("main", "", full, hook, hook, hook)), 60001)
}

// P15.1: programs of very many loops: 83 in a function, as each has three slots.
func TestManyLoops(t *testing.T) {
	for _, row := range []struct{ functions, loops int }{{36, 83}, {37, 83}, {60, 83}, {60, 1}, {60, 0}} {
		var all [][]api.Node
		for f := range row.functions {
			name := "f" + strconv.Itoa(f)
			if f == 0 {
				name = "main"
			}
			loop := under(api.Node{Kind: api.KFor, Name: "i"}, leaf(api.KInt, 1), leaf(api.KInt, 2), under(api.Node{Kind: api.KBlock}))
			all = append(all, function(name, "", slices.Repeat([][]api.Node{loop}, row.loops)...))
		}
		count(t, "loops", functions(t, all...), row.functions*(20*row.loops+1))
	}
}

// P15.1: MaxTexts texts, and one more; those that are there twice count once.
func TestManyTexts(t *testing.T) {
	for _, row := range []struct {
		texts, twice int
		want         api.Errno
	}{{3999, 0, api.OK}, {4000, 0, api.OK}, {4001, 0, api.ErrSize}, {4000, 4000, api.OK}, {4001, 1, api.ErrSize}, {19000, 0, api.ErrSize}} {
		var statements [][]api.Node
		for i := range row.texts + row.twice {
			statements = append(statements, printed([]api.Node{{Kind: api.KText, Text: strconv.Itoa(i % row.texts), Size: 1}}))
		}
		answers(t, "texts", mainOf(t, statements...), row.want)
	}
}

// P15.4: a part that is too high, wherever it stands: the most that fits, and one more.
func TestHighStacks(t *testing.T) {
	i, name := leaf(api.KInt, 0), []api.Node{{Kind: api.KName, Name: "a", Size: 1}}
	array := under(api.Node{Kind: api.KVar, Name: "a", Type: "[int]"}, under(api.Node{Kind: api.KNew, Type: "int"}, leaf(api.KInt, 3)))
	x := under(api.Node{Kind: api.KVar, Name: "x", Type: "int"}, i)
	place := []api.Node{{Kind: api.KName, Name: "x", Size: 1}}
	at := func(index []api.Node) []api.Node { return under(api.Node{Kind: api.KIndex}, name, index) }
	call := func(f string, arguments ...[]api.Node) []api.Node {
		return under(api.Node{Kind: api.KCall, Name: f}, arguments...)
	}
	do := func(call []api.Node) []api.Node { return under(api.Node{Kind: api.KDo}, call) }
	block := under(api.Node{Kind: api.KBlock})
	many := func(count int, last []api.Node) []api.Node {
		values := slices.Repeat([][]api.Node{i}, count-1)
		return printed(append(values, last)...)
	}
	less := func(e []api.Node) []api.Node { return under(api.Node{Kind: api.KBinary, Op: api.OpLt}, e, i) }
	binary := func(op api.Op, a, b []api.Node) []api.Node {
		return under(api.Node{Kind: api.KBinary, Op: op}, a, b)
	}
	empty := []api.Node{{Kind: api.KReturn, Size: 1}}
	for what, row := range map[string]struct {
		most int
		put  func(e []api.Node) [][]api.Node
	}{
		"a print":          {400, func(e []api.Node) [][]api.Node { return [][]api.Node{printed(e)} }},
		"a print's second": {399, func(e []api.Node) [][]api.Node { return [][]api.Node{printed(i, e)} }},
		"a print's first":  {400, func(e []api.Node) [][]api.Node { return [][]api.Node{printed(e, i)} }},
		"a print's last":   {385, func(e []api.Node) [][]api.Node { return [][]api.Node{many(16, e)} }},
		"a var": {400, func(e []api.Node) [][]api.Node {
			return [][]api.Node{under(api.Node{Kind: api.KVar, Name: "y", Type: "int"}, e)}
		}},
		"a value":            {400, func(e []api.Node) [][]api.Node { return [][]api.Node{under(api.Node{Kind: api.KAssign}, place, e)} }},
		"an element's value": {398, func(e []api.Node) [][]api.Node { return [][]api.Node{under(api.Node{Kind: api.KAssign}, at(i), e)} }},
		"an element's index": {399, func(e []api.Node) [][]api.Node { return [][]api.Node{under(api.Node{Kind: api.KAssign}, at(e), i)} }},
		"a read element":     {399, func(e []api.Node) [][]api.Node { return [][]api.Node{under(api.Node{Kind: api.KRead}, at(e))} }},
		"an index":           {399, func(e []api.Node) [][]api.Node { return [][]api.Node{printed(at(e))} }},
		"a new one's length": {400, func(e []api.Node) [][]api.Node {
			return [][]api.Node{printed(under(api.Node{Kind: api.KLen}, under(api.Node{Kind: api.KNew, Type: "text"}, e)))}
		}},
		"a str": {400, func(e []api.Node) [][]api.Node { return [][]api.Node{printed(under(api.Node{Kind: api.KStr}, e))} }},
		"an unary": {400, func(e []api.Node) [][]api.Node {
			return [][]api.Node{printed(under(api.Node{Kind: api.KUnary, Op: api.OpNeg}, e))}
		}},
		"a left side":  {400, func(e []api.Node) [][]api.Node { return [][]api.Node{printed(binary(api.OpSub, e, i))} }},
		"a right side": {399, func(e []api.Node) [][]api.Node { return [][]api.Node{printed(binary(api.OpSub, i, e))} }},
		"an and's left": {400, func(e []api.Node) [][]api.Node {
			return [][]api.Node{printed(binary(api.OpAnd, less(e), leaf(api.KBool, 1)))}
		}},
		"an and's right": {400, func(e []api.Node) [][]api.Node {
			return [][]api.Node{printed(binary(api.OpAnd, leaf(api.KBool, 1), less(e)))}
		}},
		"an or's left": {400, func(e []api.Node) [][]api.Node {
			return [][]api.Node{printed(binary(api.OpOr, less(e), leaf(api.KBool, 1)))}
		}},
		"an or's right": {400, func(e []api.Node) [][]api.Node {
			return [][]api.Node{printed(binary(api.OpOr, leaf(api.KBool, 1), less(e)))}
		}},
		"behind an and": {399, func(e []api.Node) [][]api.Node {
			return [][]api.Node{printed(binary(api.OpAnd, leaf(api.KBool, 1), leaf(api.KBool, 1)), e)}
		}},
		"behind an or": {399, func(e []api.Node) [][]api.Node {
			return [][]api.Node{printed(binary(api.OpOr, leaf(api.KBool, 1), leaf(api.KBool, 1)), e)}
		}},
		"an if": {400, func(e []api.Node) [][]api.Node { return [][]api.Node{under(api.Node{Kind: api.KIf}, less(e), block)} }},
		"an if's way": {400, func(e []api.Node) [][]api.Node {
			return [][]api.Node{under(api.Node{Kind: api.KIf}, leaf(api.KBool, 0), block, under(api.Node{Kind: api.KBlock}, printed(e)))}
		}},
		"a while": {400, func(e []api.Node) [][]api.Node {
			return [][]api.Node{under(api.Node{Kind: api.KWhile}, less(e), block)}
		}},
		"a for's begin": {400, func(e []api.Node) [][]api.Node {
			return [][]api.Node{under(api.Node{Kind: api.KFor, Name: "i"}, e, i, block)}
		}},
		"a for's end": {400, func(e []api.Node) [][]api.Node {
			return [][]api.Node{under(api.Node{Kind: api.KFor, Name: "i"}, i, e, block)}
		}},
		"a for's block": {400, func(e []api.Node) [][]api.Node {
			return [][]api.Node{under(api.Node{Kind: api.KFor, Name: "i"}, i, i, under(api.Node{Kind: api.KBlock}, printed(e)))}
		}},
		"a call that is done": {400, func(e []api.Node) [][]api.Node { return [][]api.Node{do(call("one", e))} }},
		"its second argument": {399, func(e []api.Node) [][]api.Node { return [][]api.Node{do(call("two", i, e))} }},
		"its first argument":  {400, func(e []api.Node) [][]api.Node { return [][]api.Node{do(call("two", e, i))} }},
		"its eighth argument": {393, func(e []api.Node) [][]api.Node { return [][]api.Node{do(call("eight", i, i, i, i, i, i, i, e))} }},
		"a call within":       {398, func(e []api.Node) [][]api.Node { return [][]api.Node{printed(i, call("two", i, e))} }},
		"behind a call":       {399, func(e []api.Node) [][]api.Node { return [][]api.Node{printed(call("two", i, i), e)} }},
		"behind an index":     {399, func(e []api.Node) [][]api.Node { return [][]api.Node{printed(at(i), e)} }},
		"behind a return":     {400, func(e []api.Node) [][]api.Node { return [][]api.Node{empty, printed(e)} }},
		"behind a return within": {400, func(e []api.Node) [][]api.Node {
			return [][]api.Node{under(api.Node{Kind: api.KWhile}, leaf(api.KBool, 1), under(api.Node{Kind: api.KBlock}, []api.Node{{Kind: api.KBreak, Size: 1}}, printed(e)))}
		}},
	} {
		for _, high := range []int{1, row.most, row.most + 1} {
			want := api.OK
			if high > row.most {
				want = api.ErrSize
			}
			param := func(n int) []api.Node {
				return []api.Node{{Kind: api.KParam, Name: "p" + strconv.Itoa(n), Type: "int", Size: 1}}
			}
			taking := func(name string, count int) []api.Node {
				kids := [][]api.Node{}
				for n := range count {
					kids = append(kids, param(n))
				}
				kids = append(kids, under(api.Node{Kind: api.KBlock}, under(api.Node{Kind: api.KReturn}, i)))
				return under(api.Node{Kind: api.KFunc, Name: name, Type: "int"}, kids...)
			}
			p := functions(t, function("main", "", append([][]api.Node{x, array}, row.put(tower(high))...)...), taking("one", 1), taking("two", 2), taking("eight", 8))
			answers(t, what+" of "+strconv.Itoa(high), p, want)
		}
	}
}

// P15.4: a return's value, and that nothing of a statement stays on the stack behind it: a part of the greatest height still fits, a higher one does not.
func TestStackIsEmptyBehindStatements(t *testing.T) {
	for _, statement := range []string{
		"", "{ }", "{ print 1; }", "var v: int = 1;", "x = 1;", "a[0] = 1;", "g[0][1] = 2;", "g[0] = a;", "read x;", "read a[0];", "read g[0][1];",
		"if b { }", "if b { } else { }", "if b { } else if b { }", "while b { }", "for i = 1 to 2 { }", "print 1;", "print 1, b, s;",
		"none();", "none2(1, 2);", "some();", "some2(1, 2);", "b = b && b;", "b = b || b;", "b = b && b || b && b;", "b = !b;", "x = -x;", "x = len(a);", "s = str(x);",
		"x = a[0];", "x = some2(some(), some());", "x = s[0];", "a = new int[1];", "@1;", "@1 x;", "while b { break; }", "while b { continue; }", "for i = 1 to 2 { break; continue; }", "if b { return; }", "if b { return @3; }",
	} {
		for _, high := range []int{400, 401} {
			text := "fn none() { } fn none2(a: int, b: int) { } fn some(): int { return 1; } fn some2(a: int, b: int): int { return @5 a; } fn main() { var x: int = 0; var a: [int] = new int[1]; var g: [[int]] = new [int][1]; var b: bool = true; var s: text = \"\"; " + statement + " print 0; }"
			nodes := program(t, text).Tree.Nodes
			// The last print's value is the last node, so all that is around it grows.
			more := tower(high)
			for n := range nodes {
				if n+nodes[n].Size == len(nodes) {
					nodes[n].Size += len(more) - 1
				}
			}
			nodes = append(nodes[:len(nodes)-1], more...)
			want := api.OK
			if high > 400 {
				want = api.ErrSize
			}
			answers(t, statement, checked(t, nodes), want)
		}
	}
	for _, high := range []int{400, 401} {
		for _, hook := range []int64{0, 9} {
			want := api.OK
			if high > 400 {
				want = api.ErrSize
			}
			f := function("f", "int", under(api.Node{Kind: api.KReturn, Int: hook}, tower(high)))
			answers(t, "a return", functions(t, f, function("main", "")), want)
			answers(t, "two functions", functions(t, function("main", "", printed(tower(400))), f), want)
		}
	}
}

// P15.8: parts within one another as deep as a tree can have them, and lists as long.
func TestGreatTrees(t *testing.T) {
	block := under(api.Node{Kind: api.KBlock})
	yes := leaf(api.KBool, 1)
	for what, statement := range map[string][]api.Node{
		"nots":               printed(repeated(39990, []api.Node{{Kind: api.KUnary, Op: api.OpNot}}, nil, yes)),
		"sums to the left":   printed(repeated(19990, []api.Node{{Kind: api.KBinary, Op: api.OpAdd}}, leaf(api.KInt, 1), leaf(api.KInt, 1))),
		"sums to the right":  printed(repeated(19990, []api.Node{{Kind: api.KBinary, Op: api.OpAdd}, {Kind: api.KInt, Size: 1}}, nil, leaf(api.KInt, 1))),
		"ands to the right":  printed(repeated(19990, []api.Node{{Kind: api.KBinary, Op: api.OpAnd}, {Kind: api.KBool, Size: 1}}, nil, yes)),
		"ands, fewer":        printed(repeated(14990, []api.Node{{Kind: api.KBinary, Op: api.OpAnd}, {Kind: api.KBool, Size: 1}}, nil, yes)),
		"ors to the right":   printed(repeated(14990, []api.Node{{Kind: api.KBinary, Op: api.OpOr}, {Kind: api.KBool, Size: 1}}, nil, yes)),
		"ors to the left":    printed(chain(14990, api.OpOr)),
		"blocks":             repeated(39990, []api.Node{{Kind: api.KBlock}}, nil, block),
		"whiles":             repeated(13000, []api.Node{{Kind: api.KWhile}, {Kind: api.KBool, Size: 1}, {Kind: api.KBlock}}, nil, block),
		"ifs":                repeated(13000, []api.Node{{Kind: api.KIf}, {Kind: api.KBool, Size: 1}, {Kind: api.KBlock}}, nil, block),
		"elses":              repeated(9000, []api.Node{{Kind: api.KIf}, {Kind: api.KBool, Size: 1}, {Kind: api.KBlock, Size: 1}}, nil, under(api.Node{Kind: api.KIf}, yes, block)),
		"calls":              under(api.Node{Kind: api.KDo}, repeated(1, []api.Node{{Kind: api.KCall, Name: "f"}}, nil, repeated(39900, []api.Node{{Kind: api.KCall, Name: "f"}}, nil, leaf(api.KInt, 1)))),
		"strs":               printed(repeated(39900, []api.Node{{Kind: api.KStr}}, nil, leaf(api.KInt, 1))),
		"a block of prints":  under(api.Node{Kind: api.KBlock}, slices.Repeat([][]api.Node{printed(leaf(api.KInt, 1))}, 19900)...),
		"a block of blocks":  under(api.Node{Kind: api.KBlock}, slices.Repeat([][]api.Node{block}, 39900)...),
		"a block of hooks":   under(api.Node{Kind: api.KBlock}, slices.Repeat([][]api.Node{{{Kind: api.KHook, Int: 40000, Size: 1}}}, 39900)...),
		"a block of returns": under(api.Node{Kind: api.KBlock}, slices.Repeat([][]api.Node{{{Kind: api.KReturn, Int: 40000, Size: 1}}}, 29900)...),
	} {
		f := under(api.Node{Kind: api.KFunc, Name: "f", Type: "int"}, []api.Node{{Kind: api.KParam, Name: "a", Type: "int", Size: 1}}, under(api.Node{Kind: api.KBlock}, under(api.Node{Kind: api.KReturn}, leaf(api.KInt, 1))))
		p := functions(t, f, function("main", "", statement))
		made, errno := Program(p)
		if len(made.Instrs) == 0 && (errno != api.ErrSize || what != "sums to the right" && what != "ands to the right") {
			t.Errorf("%s: %d", what, errno)
		}
		if want, code := wanted(p); errno != code || !same(made, want) {
			t.Errorf("%s: %d, want %d", what, errno, code)
		}
	}
}

// P15.1: a tree of MaxTree nodes, and one more, which is no checked program's.
func TestGreatestTree(t *testing.T) {
	nodes := under(api.Node{Kind: api.KProgram}, function("main", "", slices.Repeat([][]api.Node{under(api.Node{Kind: api.KBlock})}, 39997)...))
	p := checked(t, nodes)
	count(t, "the greatest tree", p, 39998)
	p.Tree.Nodes = append(slices.Clone(nodes), api.Node{Kind: api.KBlock, Size: 1})
	for n := range 3 {
		p.Tree.Nodes[n].Size++
	}
	for _, list := range []*[]int{&p.Scoped.Slots, &p.Scoped.Calls, &p.Scoped.Targets} {
		*list = append(*list, -1)
	}
	p.Scoped.Owners = append(p.Scoped.Owners, 0)
	p.Types = append(p.Types, "")
	if made, errno := Program(p); errno != api.ErrArg || len(made.Instrs) > 0 {
		t.Errorf("one node more: %d", errno)
	}
}

// P15.2: as many slots, parameters and functions as there may be.
func TestManySlots(t *testing.T) {
	text := "fn main() { var v: text = \"\"; "
	for range 83 {
		text += "for i = 1 to 2 { } "
	}
	made := holds(t, program(t, text+"}"), "slots")
	if e := made.Entrys[0]; len(e.Sorts) != 250 || e.Sorts[0] != 3 || e.Sorts[249] != 1 {
		t.Errorf("%v", e)
	}
	text = "fn main() { f58(1, true, \"\", new int[1], new [int][1], new [[text]][1], new bool[1], 8); } "
	for f := range 59 {
		text += "fn f" + strconv.Itoa(f) + "(a: int, b: bool, c: text, d: [int], e: [[int]], f: [[[text]]], g: [bool], h: int): [[[[bool]]]] { return new [[[bool]]][a]; } "
	}
	made = holds(t, program(t, text), "functions")
	if e := made.Entrys[59]; len(made.Entrys) != 60 || e.Params != 8 || e.Result != 18 || !slices.Equal(e.Sorts, []api.Sort{1, 2, 3, 5, 9, 15, 6, 1}) {
		t.Errorf("%v", made.Entrys)
	}
}
