package pretty

import (
	"errors"
	"fmt"
	"math/rand"
	"slices"
	"strings"
	"testing"

	"retrace/api"
	"retrace/parse"
	"retrace/tree"
)

// face is a call with the way back from its text.
type face struct {
	name  string
	tell  func(api.Tree) (string, api.Errno)
	parse func(string) (api.Tree, api.Problem)
	want  func(*knot) string
	grow  func(grower) *knot
}

var programs = face{
	"Program", Program, parse.Program,
	chapter.program,
	grower.program,
}

var exprs = face{
	"Expr", Expr, parse.Expr,
	func(k *knot) string { return chapter.expr(k, 1) },
	func(g grower) *knot { return g.expr(1 + g.Intn(5)) },
}

var faces = []face{programs, exprs}

func cut(text string) string {
	if len(text) > 2000 {
		return text[:2000] + ".."
	}
	return text
}

// tells checks the text of a source's tree.
func (f face) tells(t *testing.T, source, want string) {
	t.Helper()
	parsed, problem := f.parse(source)
	if problem.Code != api.OK {
		t.Fatalf("the source %q: %v", source, problem)
	}
	if got, errno := f.tell(parsed); got != want || errno != api.OK {
		t.Errorf("%s of %q:\n%s\n%d, want\n%s", f.name, source, got, errno, want)
	}
}

// refuses checks that nothing is told but the error.
func (f face) refuses(t *testing.T, what string, nodes []api.Node, errno api.Errno) {
	t.Helper()
	if got, told := f.tell(api.Tree{Nodes: nodes}); got != "" || told != errno {
		t.Errorf("%s of %s: %q, %d, want the error %d", f.name, what, cut(got), told, errno)
	}
}

func (f face) text(t *testing.T, told api.Tree) string {
	t.Helper()
	text, errno := f.tell(told)
	if errno != api.OK {
		t.Fatalf("%s of %d nodes: error %d", f.name, len(told.Nodes), errno)
	}
	return text
}

const laid = `fn f(a: int, b: [text]): int {
    if a == 1 {
        return (a + 2) * 3;
    } else if !(a < 2 && true) {
        return --a;
    } else {
        {
        }
    }
    return len(b[a - (1 - 1)]) + 0;
}

fn main() {
    out: while true {
        for i = 1 to 2 {
            break out;
        }
    }
    print "a\n", f(1, new text[2]);
}
`

// P5.1: the chapter's example, and every kind of statement.
func TestProgram(t *testing.T) {
	programs.tells(t, `fn  f(a:int,b:[text]):int{if(a==1){return((a+2)*3);}else if !(a<2&&true){return -(-a);}else{{}}return len(b[a-(1-1)])+0;}fn main(){out:while true{for i=1 to 2{break out;}}print"a\n",f(1,new text[2]);}`, laid)
	programs.tells(t, "", "")
	programs.tells(t, "# nothing\n", "")
	programs.tells(t, "fn a(){}fn b(){}fn c(){}", "fn a() {\n}\n\nfn b() {\n}\n\nfn c() {\n}\n")
	programs.tells(t, "fn a(x:int){}", "fn a(x: int) {\n}\n")
	programs.tells(t, "fn a(x:int,y:[ [bool] ],z:text){}", "fn a(x: int, y: [[bool]], z: text) {\n}\n")
	programs.tells(t, "fn a():[int]{}", "fn a(): [int] {\n}\n")
}

func TestEveryStatement(t *testing.T) {
	for source, want := range map[string]string{
		"var v:[ [int] ]=1;":               "    var v: [[int]] = 1;",
		"v=1;":                             "    v = 1;",
		"v[1][(a+b)]=(2);":                 "    v[1][a + b] = 2;",
		"if(a){}":                          "    if a {|    }",
		"if(a){}else{}":                    "    if a {|    } else {|    }",
		"if(a){b();}else{c();}":            "    if a {|        b();|    } else {|        c();|    }",
		"if a{}else if b{}":                "    if a {|    } else if b {|    }",
		"if a{}else if b{}else{}":          "    if a {|    } else if b {|    } else {|    }",
		"if a{}else{if b{}else{}}":         "    if a {|    } else {|        if b {|        } else {|        }|    }",
		"if a{if b{}else{}}":               "    if a {|        if b {|        } else {|        }|    }",
		"if a{if b{}}else{}":               "    if a {|        if b {|        }|    } else {|    }",
		"if a{}else if b{}else if c{x();}": "    if a {|    } else if b {|    } else if c {|        x();|    }",
		"while(a<b){}":                     "    while a < b {|    }",
		"l:while a{continue l;}":           "    l: while a {|        continue l;|    }",
		"for i=(1)to(n-1){}":               "    for i = 1 to n - 1 {|    }",
		"l:for i=1 to n{{break;}}":         "    l: for i = 1 to n {|        {|            break;|        }|    }",
		"break;break l;":                   "    break;|    break l;",
		"continue;continue l;":             "    continue;|    continue l;",
		"return;":                          "    return;",
		"return@1;":                        "    return @1;",
		"return(1);":                       "    return 1;",
		"return@40000(1);":                 "    return @40000 1;",
		"return-1;":                        "    return -1;",
		"print(1);":                        "    print 1;",
		"print(1),\"t\",(a&&b);":           "    print 1, \"t\", a && b;",
		"read p;read p[(0)][1];":           "    read p;|    read p[0][1];",
		"f();f((1),f());":                  "    f();|    f(1, f());",
		"@1;@40000 x;":                     "    @1;|    @40000 x;",
		"{}{{}}":                           "    {|    }|    {|        {|        }|    }",
		"{a();{b();}c();}":                 "    {|        a();|        {|            b();|        }|        c();|    }",
	} {
		programs.tells(t, "fn m(){"+source+"}", "fn m() {\n"+strings.ReplaceAll(want, "|", "\n")+"\n}\n")
	}
}

// P5.2: the chapter's examples, and every kind of expression.
func TestExpr(t *testing.T) {
	for source, want := range map[string]string{
		"1-(2-3)-4": "1 - (2 - 3) - 4", "(1<2)==(3<4)": "(1 < 2) == (3 < 4)", "((a))[1]": "a[1]",
		"(a||b)&&c||d": "(a || b) && c || d", "-(a*b)": "-(a * b)", "(-a)[1]": "(-a)[1]",
		"(new int[3])[0]": "new int[3][0]",
		"0":               "0", "9223372036854775807": "9223372036854775807",
		"true": "true", "(false)": "false",
		`"\x41\x0a\"\\\x7f"`: `"A\n\"\\\x7f"`, `""`: `""`,
		"f()": "f()", "f(1)": "f(1)", "f(1,(2),(3+4))": "f(1, 2, 3 + 4)", "(f())[1]": "f()[1]",
		"len((a))": "len(a)", "str((a<b))": "str(a < b)", "(len(a))[1]": "len(a)[1]",
		"new[ [int] ][(1)]": "new [[int]][1]", "new[int][1][2]": "new [int][1][2]",
		"((a[1])[2])": "a[1][2]", "a[(b[1])]": "a[b[1]]", "(a[1])+(b[2])": "a[1] + b[2]",
		"-(a[1])": "-a[1]", "!(!a)": "!!a", "-(!a)": "-!a", "(-a)*(-b)": "-a * -b",
		"(a-b)-c": "a - b - c", "a-(b-c)": "a - (b - c)", "a-(b+c)": "a - (b + c)",
		"(a*b)/c": "a * b / c", "a*(b/c)": "a * (b / c)", "(a+b)%c": "(a + b) % c", "a+(b%c)": "a + b % c",
		"(a&&b)&&c": "a && b && c", "a&&(b&&c)": "a && (b && c)", "(a||b)||c": "a || b || c", "a||(b||c)": "a || (b || c)",
		"a||(b&&c)": "a || b && c", "a&&(b||c)": "a && (b || c)", "(a==b)&&(c!=d)": "a == b && c != d",
		"(a==b)!=c": "(a == b) != c", "a==(b!=c)": "a == (b != c)", "(a+b)<=(c-d)": "a + b <= c - d",
		"a>=(b&&c)": "a >= (b && c)", "(a||b)>c": "(a || b) > c",
	} {
		exprs.tells(t, source, want)
	}
}

func one(node api.Node) []api.Node {
	node.Size = 1
	return []api.Node{node}
}

// P5.1, P5.2: what is no tree, or not of the face's kind, has no text.
func TestNoTree(t *testing.T) {
	if got, errno := Program(api.Tree{Nodes: one(api.Node{Kind: api.KProgram})}); got != "" || errno != api.OK {
		t.Errorf("Program without functions: %q, %d", got, errno)
	}
	if got, errno := Expr(api.Tree{Nodes: one(api.Node{Kind: api.KInt, Int: 5})}); got != "5" || errno != api.OK {
		t.Errorf("Expr of the number 5: %q, %d", got, errno)
	}
	programs.refuses(t, "a number", one(api.Node{Kind: api.KInt, Int: 5}), api.ErrTree)
	exprs.refuses(t, "a program", one(api.Node{Kind: api.KProgram}), api.ErrTree)
	for _, f := range faces {
		f.refuses(t, "no nodes", nil, api.ErrTree)
		f.refuses(t, "an empty list", []api.Node{}, api.ErrTree)
		f.refuses(t, "a block alone", one(api.Node{Kind: api.KBlock}), api.ErrTree)
		f.refuses(t, "a function alone", []api.Node{{Kind: api.KFunc, Name: "f", Size: 2}, {Kind: api.KBlock, Size: 1}}, api.ErrTree)
		f.refuses(t, "a call as a statement", []api.Node{{Kind: api.KDo, Size: 2}, {Kind: api.KCall, Name: "f", Size: 1}}, api.ErrTree)
		f.refuses(t, "a number below 0", one(api.Node{Kind: api.KInt, Int: -1}), api.ErrTree)
		f.refuses(t, "a program whose Size is 2", []api.Node{{Kind: api.KProgram, Size: 2}}, api.ErrTree)
		f.refuses(t, "an operator alone", one(api.Node{Kind: api.KBinary, Op: api.OpAdd}), api.ErrTree)
		f.refuses(t, "kind 0", one(api.Node{}), api.ErrTree)
		f.refuses(t, "kind 99", one(api.Node{Kind: 99}), api.ErrTree)
	}
}

// P5.1, P5.2, P5.6: any field of any node changed: what is a tree still is told as the chapter says, what is none is refused.
func TestChangedTrees(t *testing.T) {
	g := grower{rand.New(rand.NewSource(1))}
	refused := 0
	for i := range 20000 {
		nodes := faces[i%2].grow(g).tree().Nodes
		node := &nodes[g.Intn(len(nodes))]
		switch g.Intn(9) {
		case 0:
			node.Kind = api.Kind(g.Intn(29) - 1)
		case 1:
			node.At = g.Intn(3) - 1
		case 2:
			node.Name = []string{"", "z", "if", "1", "x y"}[g.Intn(5)]
		case 3:
			node.Label = []string{"", "z", "if", "1", "x y"}[g.Intn(5)]
		case 4:
			node.Type = []string{"", "int", "[int]", "[[[[[int]]]]]", "int "}[g.Intn(5)]
		case 5:
			node.Op = api.Op(g.Intn(18) - 1)
		case 6:
			node.Int = int64(g.Intn(4) - 1)
		case 7:
			node.Text = []string{"", "z", strings.Repeat("z", 201)}[g.Intn(3)]
		case 8:
			node.Size += g.Intn(5) - 2
		}
		for j, f := range faces {
			if tree.Valid(api.Tree{Nodes: nodes}) != api.OK || (nodes[0].Kind == api.KProgram) != (j == 0) {
				f.refuses(t, fmt.Sprint(nodes), nodes, api.ErrTree)
				refused++
				continue
			}
			if got, want := f.text(t, api.Tree{Nodes: nodes}), f.want(knotOf(nodes)); got != want {
				t.Fatalf("%s of %v:\n%s\nwant\n%s", f.name, nodes, got, want)
			}
		}
	}
	if refused < 25000 || refused > 39000 {
		t.Errorf("%d of 40000 refused: the test does not reach both sides", refused)
	}
}

// P5.6: any lists of nodes, most of them no trees.
func TestAnyNodes(t *testing.T) {
	r := rand.New(rand.NewSource(2))
	for range 200000 {
		nodes := make([]api.Node, r.Intn(6))
		for i := range nodes {
			nodes[i] = api.Node{Kind: api.Kind(r.Intn(30) - 1), Size: len(nodes) - i}
			if r.Intn(2) == 0 {
				nodes[i].Size = r.Intn(7) - 1
			}
			if r.Intn(2) == 0 {
				nodes[i].Name = "x"
			}
			if r.Intn(4) == 0 {
				nodes[i].Type = "int"
			}
			if r.Intn(4) == 0 {
				nodes[i].Op = api.Op(r.Intn(18) - 1)
			}
			if r.Intn(8) == 0 {
				nodes[i].Int = int64(r.Intn(3) - 1)
			}
		}
		valid := tree.Valid(api.Tree{Nodes: nodes}) == api.OK
		for i, f := range faces {
			text, errno := f.tell(api.Tree{Nodes: nodes})
			told := valid && (nodes[0].Kind == api.KProgram) == (i == 0)
			if told != (errno == api.OK) || !told && (text != "" || errno != api.ErrTree) {
				t.Fatalf("%s of %v: %q, %d", f.name, nodes, text, errno)
			}
		}
	}
}

// allExprs is every expression of so many nodes that are no leaves, over all operators and kinds, the leaves alike.
func allExprs(inner int) []*knot {
	if inner == 0 {
		return []*knot{tie(api.Node{Kind: api.KName, Name: "a"})}
	}
	var all []*knot
	for _, e := range allExprs(inner - 1) {
		for _, node := range []api.Node{
			{Kind: api.KUnary, Op: api.OpNeg}, {Kind: api.KUnary, Op: api.OpNot},
			{Kind: api.KNew, Type: "int"}, {Kind: api.KLen}, {Kind: api.KStr}, {Kind: api.KCall, Name: "f"},
		} {
			all = append(all, tie(node, e))
		}
	}
	for ahead := range inner {
		rights := allExprs(inner - 1 - ahead)
		for _, left := range allExprs(ahead) {
			for _, right := range rights {
				all = append(all, tie(api.Node{Kind: api.KIndex}, left, right), tie(api.Node{Kind: api.KCall, Name: "f"}, left, right))
				for op := api.OpAdd; op <= api.OpOr; op++ {
					all = append(all, tie(api.Node{Kind: api.KBinary, Op: op}, left, right))
				}
			}
		}
	}
	return all
}

// P5.2, P5.3, P5.5: all small expressions: their texts are the chapter's, read back, and no two are one.
func TestAllSmallExprs(t *testing.T) {
	const most = 3
	seen := map[string]int{}
	count := 0
	for inner := range most + 1 {
		for _, k := range allExprs(inner) {
			told := k.tree()
			text := exprs.text(t, told)
			if want := exprs.want(k); text != want {
				t.Fatalf("Expr of %v: %q, want %q", told, text, want)
			}
			back, problem := parse.Expr(text)
			if problem.Code != api.OK || !tree.Same(back, told) {
				t.Fatalf("%q does not read back: %v", text, problem)
			}
			seen[text]++
			count++
		}
	}
	if len(seen) != count {
		t.Errorf("%d texts of %d trees", len(seen), count)
	}
}

// partner is where the bracket that opens at an offset is closed; quotes may not stand in the text.
func partner(text string, at int) int {
	open := 0
	for i := at; ; i++ {
		switch text[i] {
		case '(':
			open++
		case ')':
			open--
			if open == 0 {
				return i
			}
		}
	}
}

// Levels: without a pair of its brackets a text is no expression's, or another one's: none is there but for need.
func TestNoBracketTooMany(t *testing.T) {
	for inner := range 4 {
		for _, k := range allExprs(inner) {
			told := k.tree()
			text := exprs.text(t, told)
			for at := range len(text) {
				if text[at] != '(' {
					continue
				}
				end := partner(text, at)
				back, problem := parse.Expr(text[:at] + " " + text[at+1:end] + " " + text[end+1:])
				if problem.Code == api.OK && tree.Same(back, told) {
					t.Fatalf("%q has brackets at %d and %d that it does not need", text, at, end)
				}
			}
		}
	}
}

// P5.1, P5.2, P5.3: grown trees: their texts are the chapter's, and read back.
func TestGrownTrees(t *testing.T) {
	g := grower{rand.New(rand.NewSource(3))}
	for i := range 8000 {
		f := faces[i%2]
		k := f.grow(g)
		told := k.tree()
		text := f.text(t, told)
		if want := f.want(k); text != want {
			t.Fatalf("%s:\n%s\nwant\n%s", f.name, text, want)
		}
		back, problem := f.parse(text)
		if problem.Code != api.OK || !tree.Same(back, told) {
			t.Fatalf("%s: %v of the text\n%s", f.name, problem, text)
		}
	}
}

// tooDeep tells whether expressions or blocks of a tree, or brackets of its text, are nested deeper than parse takes them.
func tooDeep(k *knot, text string) bool {
	open, most := 0, 0
	for _, b := range []byte(text) {
		switch b {
		case '(', '[', '{':
			open++
		case ')', ']', '}':
			open--
		}
		most = max(most, open)
	}
	return most > 200 || nested(k, false, 0, 0)
}

func nested(k *knot, behindElse bool, blocks, exprs int) bool {
	if k.Kind == api.KBlock || behindElse && k.Kind == api.KIf {
		blocks++
	}
	if k.isExpr() {
		exprs++
	}
	if exprs > api.MaxDeep || k.Kind == api.KBlock && blocks > api.MaxDeep {
		return true
	}
	for i, kid := range k.kids {
		if nested(kid, k.Kind == api.KIf && i == 2, blocks, exprs) {
			return true
		}
	}
	return false
}

// P5.3: trees about and beyond what parse takes: a problem is told only of those.
func TestBeyondParse(t *testing.T) {
	g := grower{rand.New(rand.NewSource(4))}
	refused := 0
	for i := range 1500 {
		e := g.leaf()
		for range 30 + g.Intn(14) {
			e = g.wrap(e)
		}
		f, k := exprs, e
		if i%2 == 0 {
			f = programs
			k = tie(api.Node{Kind: api.KBlock}, tie(api.Node{Kind: api.KPrint}, e))
			for range 30 + g.Intn(12) {
				k = g.around(k)
			}
			k = tie(api.Node{Kind: api.KProgram}, tie(api.Node{Kind: api.KFunc, Name: "f"}, k))
		}
		told := k.tree()
		text := f.text(t, told)
		if want := f.want(k); text != want {
			t.Fatalf("%s:\n%s\nwant\n%s", f.name, text, want)
		}
		back, problem := f.parse(text)
		deep := tooDeep(k, stripTexts(text))
		if deep {
			refused++
		}
		if deep != (problem.Code == api.ErrDeep) || !deep && !tree.Same(back, told) {
			t.Fatalf("%s: %v, too deep: %t, of the text\n%s", f.name, problem, deep, text)
		}
	}
	if refused < 100 || refused > 1400 {
		t.Errorf("%d of 1500 refused: the test does not reach both sides", refused)
	}
}

// stripTexts takes the texts out of a source, with whatever brackets stand in them.
func stripTexts(text string) string {
	parts := strings.Split(strings.ReplaceAll(strings.ReplaceAll(text, `\\`, ""), `\"`, ""), `"`)
	var rest strings.Builder
	for i := 0; i < len(parts); i += 2 {
		rest.WriteString(parts[i])
	}
	return rest.String()
}

// around puts a block around a block, by one of the statements that have one.
func (g grower) around(k *knot) *knot {
	empty := tie(api.Node{Kind: api.KBlock})
	s := k
	switch g.Intn(5) {
	case 0:
		s = tie(api.Node{Kind: api.KIf}, g.leaf(), k)
	case 1:
		s = tie(api.Node{Kind: api.KIf}, g.leaf(), empty, tie(api.Node{Kind: api.KIf}, g.leaf(), k))
	case 2:
		s = tie(api.Node{Kind: api.KWhile}, g.leaf(), k)
	case 3:
		s = tie(api.Node{Kind: api.KFor, Name: "i"}, g.leaf(), g.leaf(), k)
	}
	return tie(api.Node{Kind: api.KBlock}, s)
}

// P5.3: more nodes than parse takes.
func TestMoreThanMaxTree(t *testing.T) {
	// The program has 3 nodes beside its statements, the call 1 beside its arguments.
	for _, nodes := range []int{api.MaxTree - 1, api.MaxTree, api.MaxTree + 1, 3 * api.MaxTree} {
		body := tie(api.Node{Kind: api.KBlock})
		call := tie(api.Node{Kind: api.KCall, Name: "f"})
		for range nodes - 3 {
			body.kids = append(body.kids, tie(api.Node{Kind: api.KReturn}))
		}
		for range nodes - 1 {
			call.kids = append(call.kids, tie(api.Node{Kind: api.KInt}))
		}
		program := tie(api.Node{Kind: api.KProgram}, tie(api.Node{Kind: api.KFunc, Name: "f"}, body))
		for i, k := range []*knot{program, call} {
			f := faces[i]
			told := k.tree()
			back, problem := f.parse(f.text(t, told))
			if len(told.Nodes) != nodes {
				t.Fatalf("%d nodes", len(told.Nodes))
			}
			if nodes > api.MaxTree && problem.Code != api.ErrSize || nodes <= api.MaxTree && !tree.Same(back, told) {
				t.Errorf("%s of %d nodes: %v", f.name, nodes, problem)
			}
		}
	}
}

// P5.4: of sources laid out anyhow, with more brackets than they need, the text is one and the same, and its tree's.
func TestCanonical(t *testing.T) {
	g := grower{rand.New(rand.NewSource(5))}
	for i := range 4000 {
		f := faces[i%2]
		k := f.grow(g)
		messy := teller{g.Rand, g.Intn(4)}
		source := ""
		if i%2 == 0 {
			source = messy.program(k)
		} else {
			source = messy.expr(k, 1)
		}
		source = mess(g.Rand, source)
		first, problem := f.parse(source)
		if problem.Code != api.OK {
			t.Fatalf("%v of the source\n%s", problem, source)
		}
		text := f.text(t, first)
		if want := f.want(k); text != want {
			t.Fatalf("%s of the source\n%s\nis\n%s\nwant\n%s", f.name, source, text, want)
		}
		second, problem := f.parse(text)
		if problem.Code != api.OK || !tree.Same(first, second) {
			t.Fatalf("%v of the text\n%s", problem, text)
		}
		if again := f.text(t, second); again != text {
			t.Fatalf("the text\n%s\nhas the text\n%s", text, again)
		}
	}
}

// P5.5: two trees have one text just if they are the same tree.
func TestOneTextOneTree(t *testing.T) {
	g := grower{rand.New(rand.NewSource(6))}
	seen := map[string]api.Tree{}
	for i := range 30000 {
		f := faces[i%2]
		k := f.grow(g)
		if i%2 == 1 {
			k = g.expr(2)
		}
		told := k.tree()
		text := f.name + f.text(t, told)
		if other, met := seen[text]; met && !tree.Same(other, told) {
			t.Fatalf("%v and %v have one text:\n%s", other, told, text)
		}
		seen[text] = told
		changed := api.Tree{Nodes: slices.Clone(told.Nodes)}
		for n := range changed.Nodes {
			changed.Nodes[n].At = g.Intn(9)
		}
		if f.name+f.text(t, changed) != text {
			t.Fatalf("the places make a difference to\n%s", text)
		}
		node := &changed.Nodes[g.Intn(len(changed.Nodes))]
		switch g.Intn(6) {
		case 0:
			node.Op++
		case 1:
			node.Int++
		case 2:
			node.Name += "z"
		case 3:
			node.Label += "z"
		case 4:
			node.Type = "[" + node.Type + "]"
		case 5:
			node.Text += " "
		}
		if other, errno := f.tell(changed); errno == api.OK && f.name+other == text {
			t.Fatalf("%v and %v have one text:\n%s", told, changed, text)
		}
	}
}

// blocks is a program of blocks, each in the one ahead.
func blocks(deep int) []api.Node {
	nodes := []api.Node{{Kind: api.KProgram, Size: deep + 3}, {Kind: api.KFunc, Name: "f", Size: deep + 2}}
	for i := range deep + 1 {
		nodes = append(nodes, api.Node{Kind: api.KBlock, Size: deep + 1 - i})
	}
	return nodes
}

// filler is a call with a text of just so many bytes (at least 1000).
func filler(bytes int) *knot {
	call := tie(api.Node{Kind: api.KCall, Name: "f"})
	bytes -= len("f()")
	for bytes > 0 {
		length := min(bytes, 300)
		if rest := bytes - length; rest > 0 && rest < 5 {
			length -= 5
		}
		if bytes > length {
			bytes -= len(", ")
			length -= len(", ")
		}
		// The bytes 1 and a have quotes of 4 bytes and of 1.
		quoted := length - len(`""`)
		call.kids = append(call.kids, tie(api.Node{Kind: api.KText, Text: strings.Repeat("\x01", quoted/4) + strings.Repeat("a", quoted%4)}))
		bytes -= length
	}
	return call
}

// limited checks that a tree's text of so many bytes is told, or not.
func (f face) limited(t *testing.T, k *knot, bytes int) {
	t.Helper()
	told := k.tree()
	if bytes > api.MaxScan {
		f.refuses(t, fmt.Sprint("a text of ", bytes, " bytes"), told.Nodes, api.ErrSize)
	} else if text := f.text(t, told); len(text) != bytes || text != f.want(k) {
		t.Fatalf("%s: a text of %d bytes, want %d", f.name, len(text), bytes)
	}
}

// P5.1, P5.2: a text may have MaxScan bytes, and no more; wherever it grows beyond, in whichever of its pieces, it is given up.
func TestMaxScan(t *testing.T) {
	for _, bytes := range []int{api.MaxScan - 1, api.MaxScan, api.MaxScan + 1, api.MaxScan + 2} {
		exprs.limited(t, filler(bytes), bytes)
	}
	g := grower{rand.New(rand.NewSource(7))}
	rounds := 150
	if testing.Short() {
		rounds = 20
	}
	for i := range rounds {
		bytes := api.MaxScan - 40 + g.Intn(80)
		if i%3 == 0 {
			bytes = api.MaxScan + g.Intn(2)
		}
		if i%2 == 0 {
			tail := g.expr(3)
			ahead := filler(bytes - len("[]") - len(chapter.expr(tail, 1)))
			exprs.limited(t, tie(api.Node{Kind: api.KIndex}, ahead, tail), bytes)
			continue
		}
		body := tie(api.Node{Kind: api.KBlock}, nil, g.statement(2))
		k := tie(api.Node{Kind: api.KProgram}, tie(api.Node{Kind: api.KFunc, Name: "f"}, body))
		body.kids[0] = tie(api.Node{Kind: api.KDo}, filler(1000))
		body.kids[0].kids[0] = filler(1000 + bytes - len(chapter.program(k)))
		programs.limited(t, k, bytes)
	}
}

// P5.1: the chapter's example of a program that is too deep for a text.
func TestNestedBlocks(t *testing.T) {
	programs.refuses(t, "1024 nested blocks", blocks(1024), api.ErrSize)
	if text := programs.text(t, api.Tree{Nodes: blocks(1000)}); strings.Count(text, " ") != 4*1000*1001+2 {
		t.Errorf("%d blanks in 1000 nested blocks", strings.Count(text, " "))
	}
	// 4 * d * (d + 1) blanks and 4 bytes for each block, 12 for the function: 1022 blocks are the most.
	for deep := 1018; deep < 1028; deep++ {
		_, errno := Program(api.Tree{Nodes: blocks(deep)})
		if size := 4*deep*(deep+1) + 4*deep + len("fn f() {\n}\n"); (errno == api.ErrSize) != (size > api.MaxScan) {
			t.Errorf("%d nested blocks, %d bytes: %d", deep, size, errno)
		}
	}
}

// chain is expressions nested in one another, the leaf last; each has so many kids, of which the nested one is the first or the last.
func chain(count int, node api.Node, kids int, first bool) []api.Node {
	nodes := make([]api.Node, 0, 1+kids*count)
	leaf := api.Node{Kind: api.KName, Name: "a", Size: 1}
	for i := range count {
		node.Size = 1 + kids*(count-i)
		nodes = append(nodes, node)
		if kids == 2 && !first {
			nodes = append(nodes, leaf)
		}
	}
	nodes = append(nodes, leaf)
	if kids == 2 && first {
		for range count {
			nodes = append(nodes, leaf)
		}
	}
	return nodes
}

// P5.6: nested deeper than calls may be.
func TestDeepChains(t *testing.T) {
	rep := strings.Repeat
	unary := api.Node{Kind: api.KUnary, Op: api.OpNot}
	length := api.Node{Kind: api.KLen}
	call := api.Node{Kind: api.KCall, Name: "f"}
	index := api.Node{Kind: api.KIndex}
	sum := api.Node{Kind: api.KBinary, Op: api.OpAdd}
	n := 1 << 16
	for i, c := range []struct {
		nodes []api.Node
		want  string
	}{
		{chain(n, unary, 1, true), rep("!", n) + "a"},
		{chain(n, length, 1, true), rep("len(", n) + "a" + rep(")", n)},
		{chain(n, call, 1, true), rep("f(", n) + "a" + rep(")", n)},
		{chain(n, index, 2, true), "a" + rep("[a]", n)},
		{chain(n, index, 2, false), rep("a[", n) + "a" + rep("]", n)},
		{chain(n, sum, 2, true), "a" + rep(" + a", n)},
		{chain(n, sum, 2, false), rep("a + (", n-1) + "a + a" + rep(")", n-1)},
		{chain(n, call, 2, false), rep("f(a, ", n) + "a" + rep(")", n)},
	} {
		if text := exprs.text(t, api.Tree{Nodes: c.nodes}); text != c.want {
			t.Errorf("chain %d: %s", i, cut(text))
		}
	}
	programs.refuses(t, "a long chain of blocks", blocks(n), api.ErrSize)
	if testing.Short() {
		return
	}
	// Beyond the bound that the document sets.
	for i, nodes := range [][]api.Node{chain(1<<20, sum, 2, true), chain(1<<20, sum, 2, false), chain(3<<19, index, 2, true)} {
		exprs.refuses(t, fmt.Sprint("a long chain ", i), nodes, api.ErrSize)
	}
}

// P5.6: ifs behind elses.
func TestLongElse(t *testing.T) {
	const n = 1 << 16
	nodes := []api.Node{{Kind: api.KProgram, Size: 3*n + 3}, {Kind: api.KFunc, Name: "f", Size: 3*n + 2}, {Kind: api.KBlock, Size: 3*n + 1}}
	for i := range n {
		nodes = append(nodes, api.Node{Kind: api.KIf, Size: 3 * (n - i)}, api.Node{Kind: api.KName, Name: "a", Size: 1}, api.Node{Kind: api.KBlock, Size: 1})
	}
	want := "fn f() {\n    " + strings.Repeat("if a {\n    } else ", n-1) + "if a {\n    }\n}\n"
	if text := programs.text(t, api.Tree{Nodes: nodes}); text != want {
		t.Errorf("%d bytes, want %d", len(text), len(want))
	}
}

// P5.6: what is handed in is not changed, spare room included.
func TestNothingChanged(t *testing.T) {
	g := grower{rand.New(rand.NewSource(8))}
	for i := range 400 {
		f := faces[i%2]
		nodes := f.grow(g).tree().Nodes
		room := append(slices.Clone(nodes), f.grow(g).tree().Nodes...)
		kept := slices.Clone(room)
		first := f.text(t, api.Tree{Nodes: room[:len(nodes)]})
		if !slices.Equal(room, kept) {
			t.Fatalf("%s has changed %v", f.name, nodes)
		}
		if again := f.text(t, api.Tree{Nodes: room[:len(nodes)]}); again != first {
			t.Fatalf("%s tells another text the second time", f.name)
		}
		faces[1-i%2].refuses(t, "the other's tree", room[:len(nodes)], api.ErrTree)
		if !slices.Equal(room, kept) {
			t.Fatalf("%s has changed %v", faces[1-i%2].name, nodes)
		}
	}
}

// Ways: what is given up is known by the sentinel alone; any other panic goes on.
func TestErrnoOf(t *testing.T) {
	if errnoOf(nil) != api.OK || errnoOf(errTooLong) != api.ErrSize || errnoOf(wrapped{}) != api.ErrSize {
		t.Error("a text given up is not known")
	}
	for _, cause := range []any{"text too long", errors.New("text too long"), 2} {
		func() {
			defer func() {
				if got := recover(); got != cause {
					t.Errorf("the panic %v went on as %v", cause, got)
				}
			}()
			errnoOf(cause)
			t.Errorf("the panic %v was held", cause)
		}()
	}
}

type wrapped struct{}

func (wrapped) Error() string { return "wrapped" }
func (wrapped) Unwrap() error { return errTooLong }
