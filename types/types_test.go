package types

import (
	"fmt"
	"math/rand"
	"slices"
	"strings"
	"testing"

	"retrace/api"
	"retrace/parse"
	"retrace/scope"
	"retrace/tree"
)

// told tells all of an answer; an empty list and none are one.
func told(answer any) string {
	return fmt.Sprintf("%+v", answer)
}

func dump(t api.Tree) string {
	text, _ := tree.Dump(t)
	if len(text) > 3000 {
		text = text[:3000] + ".."
	}
	return text
}

// named is a source's tree and what its names mean.
func named(t *testing.T, source string) (api.Tree, api.Scoped) {
	t.Helper()
	p, problem := parse.Program(source)
	if problem.Code != api.OK {
		t.Fatalf("the source %q: %v", source, problem)
	}
	s, problem := scope.Resolve(p)
	if problem.Code != api.OK {
		t.Fatalf("the names of %q: %v", source, problem)
	}
	return p, s
}

// takes checks that a source has no problem, and tells its types.
func takes(t *testing.T, source string) []string {
	t.Helper()
	p, s := named(t, source)
	types, problem := Check(p, s)
	if problem != (api.Problem{}) || len(types) != len(p.Nodes) {
		t.Fatalf("%q: %q, %v", source, types, problem)
	}
	if ok, n := Follows(p, s, types); !ok || n != -1 {
		t.Errorf("%q: the types %q break the rules: %v, %d", source, types, ok, n)
	}
	return types
}

// refuses checks that a source has the problem with its offset at the mark ^, which is no part of it, and no answer beside.
func refuses(t *testing.T, marked string, errno api.Errno) {
	t.Helper()
	at := strings.IndexByte(marked, '^')
	source := strings.Replace(marked, "^", "", 1)
	types, problem := Check(named(t, source))
	if problem != (api.Problem{Code: errno, At: at}) {
		t.Errorf("%q: %v, want %d at %d", source, problem, errno, at)
	}
	if types != nil {
		t.Errorf("%q: %q beside the problem", source, types)
	}
}

func inMain(body string) string {
	return "fn main() { " + body + " }"
}

// holds checks a tree against the chapter's words.
func holds(t *testing.T, p api.Tree) api.Problem {
	t.Helper()
	wanted, problem := wantCheck(p)
	s, _ := scope.Resolve(p)
	types, got := Check(p, s)
	if got != problem || !slices.Equal(types, wanted) {
		t.Fatalf("%q, %v\nwant\n%q, %v\nof\n%s", types, got, wanted, problem, dump(p))
	}
	if problem.Code == api.OK {
		if ok, n := Follows(p, s, types); !ok || n != -1 {
			t.Fatalf("the types %q break the rules: %v, %d, of\n%s", types, ok, n, dump(p))
		}
	}
	return problem
}

// follows checks what Follows says of some types against the chapter's words.
func follows(t *testing.T, p api.Tree, types []string) bool {
	t.Helper()
	wanted, node := wantFollows(p, types)
	s, _ := scope.Resolve(p)
	if ok, n := Follows(p, s, types); ok != wanted || n != node {
		t.Fatalf("%v, %d, want %v, %d, of the types %q and\n%s", ok, n, wanted, node, types, dump(p))
	}
	return wanted
}

// P7.1: the chapter's examples.
func TestExamples(t *testing.T) {
	types := takes(t, inMain(`var a: [int] = new int[3]; print a[0], len(a), "x" + str(true);`))
	if wanted := []string{"", "", "", "", "[int]", "int", "", "int", "[int]", "int", "int", "[int]", "text", "text", "text", "bool"}; !slices.Equal(types, wanted) {
		t.Errorf("%q, want %q", types, wanted)
	}
	refuses(t, inMain("print 1 + ^true;"), api.ErrType)
	refuses(t, inMain("print ^true + 1;"), api.ErrType)
	refuses(t, inMain(`if ^1 { print 1 + "a"; }`), api.ErrType)
	refuses(t, "fn f(a: int) { } fn main() { ^f(); }", api.ErrCount)
	refuses(t, "fn f(a: int) { } fn main() { f(^true); }", api.ErrType)
	refuses(t, "fn f(a: int) { } fn main() { print ^f(1); }", api.ErrType)
	refuses(t, inMain(`var t: text = "a"; ^t[0] = 1;`), api.ErrType)
	refuses(t, inMain(`var t: text = "a"; read ^t[0];`), api.ErrType)
	refuses(t, inMain(`var t: text = "a"; read ^t;`), api.ErrType)
	takes(t, inMain("var a: [[[[int]]]] = new [[[int]]][1];"))
	refuses(t, inMain("var a: [[[[int]]]] = ^new [[[[int]]]][1];"), api.ErrType)
	refuses(t, inMain("print ^new int[1];"), api.ErrType)
	takes(t, inMain("print new int[1] == new int[1];"))
}

// P7.1: the types of a source with nodes of all kinds.
func TestTypesOfAll(t *testing.T) {
	source := `fn f(a: int, b: [text]): [bool] { @1 a; return @2 new bool[a]; }
fn main() {
	var x: [text] = new text[2];
	x[0] = x[1] + str(-1);
	l: for i = 0 to len(x) { if !f(i, x)[0] && x[i] < "a" { continue l; } else { break; } }
	while true != (1 == 2) { { read y(); } }
	f(1, x);
	return;
}`
	source = strings.Replace(source, "read y();", "var n: int = 1; read n; n = \"a\"[n] * n;", 1)
	p, _ := named(t, source)
	types := takes(t, source)
	wanted := map[string]string{}
	for n, node := range p.Nodes {
		if node.Kind < api.KInt {
			if types[n] != "" {
				t.Errorf("node %d is no expression, but has the type %q", n, types[n])
			}
			continue
		}
		rest := source[node.At:]
		wanted[fmt.Sprint(int(node.Kind), " ", rest[:min(6, len(rest))])] += types[n] + ";"
	}
	for what, typing := range map[string]string{
		"28 new bo": "[bool];", "23 a]; }\n": "int;",
		"28 new te": "[text];", "20 2];\n\tx": "int;",
		"24 x[0] =": "text;", "23 x[0] =": "[text];", "20 0] = x": "int;",
		"27 x[1] +": "text;", "24 x[1] +": "text;", "23 x[1] +": "[text];", "20 1] + s": "int;", "30 str(-1": "text;", "26 -1);\n\t": "int;", "20 1);\n\tl": "int;",
		"20 0 to l": "int;", "29 len(x)": "int;", "23 x) { i": "[text];",
		"27 !f(i, ": "bool;", "26 !f(i, ": "bool;", "24 f(i, x": "bool;", "25 f(i, x": "[bool];", "23 i, x)[": "int;", "23 x)[0] ": "[text];", "20 0] && ": "int;",
		"27 x[i] <": "bool;", "24 x[i] <": "text;", "23 x[i] <": "[text];", "23 i] < \"": "int;", "22 \"a\" { ": "text;",
		"27 true !": "bool;", "21 true !": "bool;", "27 1 == 2": "bool;", "20 1 == 2": "int;", "20 2) { {": "int;",
		"20 1; rea": "int;", "23 n; n =": "int;", "23 n = \"a": "int;", "27 \"a\"[n]": "int;", "24 \"a\"[n]": "int;", "22 \"a\"[n]": "text;", "23 n] * n": "int;", "23 n; } }": "int;",
		"25 f(1, x": "[bool];", "20 1, x);": "int;", "23 x);\n\tr": "[text];",
	} {
		if wanted[what] != typing {
			t.Errorf("%q has the types %q, want %q", what, wanted[what], typing)
		}
		delete(wanted, what)
	}
	if len(wanted) > 0 {
		t.Errorf("and more: %q", wanted)
	}
}

// P7.1: what may stand.
func TestTaken(t *testing.T) {
	for _, body := range []string{
		"",
		"var a: [[[[int]]]] = new [[[int]]][1]; a[0][0] = new [int][2]; read a[0][0][0][1]; a[0][0][0][0] = a[1][2][3][4];",
		"var a: [int] = new int[0]; var b: bool = a == a && a != new int[1]; b = b == b;",
		`print "a" < "b", "a" <= "b", "a" > "b", "a" >= "b", 1 < 2, 1 <= 2, 1 > 2, 1 >= 2;`,
		`print 1 == 2, true != false, "a" == "b", new [int][1] != new [int][2];`,
		`var t: text = "a" + "b"; t = t + t; print t[0] + len(t) - t[1] * 2 / 3 % 4;`,
		"if true { } else if false { } else { } while true || false && !true { break; }",
		`for i = "a"[0] to len("x") { i = i + 1; read i; }`,
		"var x: int = 1; { var x: bool = x == 2; print x; { var x: text = str(x); x = x + x; } }",
		"return; return 1; return true; return main(); return new int[1];", // main has no result: what stands there is chapter 8's
		"main();",
		"@1; @2;",
	} {
		takes(t, inMain(body))
	}
	takes(t, `fn f(a: int, b: [text]): text { return b[a]; } fn g() { return; } fn main() { g(); f(1, new text[2]); print f(0, new text[1])[0]; }`)
	takes(t, "fn f() { return 1; } fn g(): int { return; } fn main() { }")
	takes(t, "fn f(a: int, b: bool, c: text, d: [int], e: int, f: int, g: int, h: [[text]]) { f(a, b, c, d, e, f, g, h); } fn main() { }")
	takes(t, "fn f(): [[[[text]]]] { return f(); } fn main() { print f()[0][0][0][0], f()[0][0][0][0][0]; }")
}

// P7.1: what may not, each rule's wishes one by one.
func TestRefused(t *testing.T) {
	for _, body := range []string{
		"print ^1[0];", "print ^true[0];", `print "a"[^true];`, `print "a"[^"a"];`, "print (^1 == 2)[0];",
		"var a: [int] = new int[1]; print a[^a];", "var a: [int] = new int[1]; print ^a[0][0];",
		"print -^true;", `print -^"a";`, "print -^new int[1];", "print !^1;", `print !^"a";`, "print !-^true;", "print -^!true;",
		"print ^true + true;", "print ^new int[1] + new int[1];", `print 1 + ^"a";`, `print "a" + ^1;`, "print 1 + ^new int[1];",
		`print ^"a" - "b";`, `print 1 - ^"b";`, "print ^true * 1;", "print 1 * ^true;", `print ^"a" / 2;`, "print 2 / ^false;", "print ^true % 2;", `print 2 % ^"a";`,
		"print ^true < false;", "print 1 < ^true;", `print 1 <= ^"a";`, `print "a" > ^1;`, "print ^new int[1] >= new int[1];", `print "a" >= ^"b"[0];`,
		"print 1 == ^true;", `print "a" != ^1;`, "print new int[1] == ^new bool[1];", "print new int[1] != ^new [int][1];", "print ^main() == main();", "print 1 == ^main();",
		"print ^1 && true;", "print true && ^1;", `print ^"a" || true;`, `print true || ^"a";`, "print ^main() && true;",
		"var a: [int] = new int[^true];", `var a: [int] = new int[^"a"];`, "var a: [int] = ^new text[1];", "var a: [int] = ^new [int][1];",
		"print len(^new [[[[text]]]][1]);", "print len(new [[[[text]]]][^true]);",
		"print len(^1);", "print len(^true);", "print len(^main());",
		"print str(^new int[1]);", "print str(^main());", `print str(^new text[1]) + 1;`,
		"var x: int = ^true;", `var x: bool = ^"a";`, "var x: text = ^1;", "var x: [int] = ^1;", "var x: int = ^new int[1];", "var x: int = ^main();",
		`var x: int = 1; x = ^"a";`, "var x: [int] = new int[1]; x = ^new text[1];", "var x: int = 1; x = ^main();",
		"var a: [int] = new int[1]; a[0] = ^a;", "var a: [int] = new int[1]; a[^a] = 1;", "var a: [int] = new int[1]; ^a[0][0] = 1;", "var a: [text] = new text[1]; ^a[0][0] = 1;", "var a: [text] = new text[1]; a[0] = ^1;",
		"if ^1 { }", `if ^"a" { } else { }`, "if true { } else if ^1 { }", "while ^1 { }", "while ^main() { }",
		"for i = ^true to 2 { }", `for i = 1 to ^"b" { }`, `for i = ^"a" to true { }`, "for i = 1 to 2 { i = ^true; }", "for i = ^main() to 1 { }",
		"print ^new int[1];", "print 1, true, ^new text[1];", "print ^main();", "print 1, ^main();",
		"var x: bool = true; read ^x;", "var x: [int] = new int[1]; read ^x;", "var a: [text] = new text[1]; read ^a[0];", "var a: [text] = new text[1]; read ^a[0][0];", "var x: int = 1; read ^x[0];",
		"return 1 + ^true;", "@1; print 1 + ^true;",
	} {
		refuses(t, inMain(body), api.ErrType)
	}
	for _, source := range []string{
		"fn f(): int { return ^true; } fn main() { }",
		"fn f(): [int] { return ^1; } fn main() { }",
		"fn f(): int { return ^new int[1]; } fn main() { }",
		"fn f(): int { return ^main(); } fn main() { }",
		`fn f(): int { if true { return ^"a"; } return 1; } fn main() { }`,
		"fn f(): int { while true { return @3 ^true; } } fn main() { return 1; }",
		"fn f(a: int, b: text) { f(1, ^1); } fn main() { }",
		"fn f(a: int, b: text) { f(^b, a); } fn main() { }",
		"fn f(a: [int]) { f(^a[0]); } fn main() { }",
		"fn f(a: int) { f(^f(1)); } fn main() { }",
		"fn f(a: int): text { return f(^f(1)); } fn main() { }",
		"fn f(): int { return 1; } fn main() { var x: text = ^f(); }",
	} {
		refuses(t, source, api.ErrType)
	}
	for _, source := range []string{
		"fn f(a: int) { } fn main() { ^f(); }",
		"fn f(a: int) { } fn main() { ^f(1, 2); }",
		"fn f(a: int) { } fn main() { ^f(true, true); }", // ahead of the types of what is handed over
		"fn f() { } fn main() { ^f(main()); }",
		"fn f(): int { return 1; } fn main() { print 1 + ^f(1) + true; }",
		"fn f(a: int, b: int) { } fn main() { ^f(1); }",
		"fn main() { ^main(1); }",
	} {
		refuses(t, source, api.ErrCount)
	}
}

// P7.1: of several things that are wrong, the first in the walk.
func TestFirstInTheWalk(t *testing.T) {
	for _, body := range []string{
		"print 1 + (2 + ^true);",
		"print ^true + 1, 1 + true;",
		"print (1 == 2) == ^3, 1 + true;",
		"print new int[1], 1 + ^true;", // a statement behind its kids
		"print true + (1 + ^true);",    // an operator behind its operands
		`print (-^"a" + 1)[true];`,
		"print -^true + -true;",
		"while 1 + ^true { if 1 { } }",
		"var x: int = ^true; if 1 { }",
		"if ^1 { var x: int = true; } else { }", // a condition ahead of the blocks
		"while ^1 { while 2 { } }",
		"for i = 1 to ^true { i = true; }",
		"for i = ^true to false { }",
		"for i = true to 1 + ^true { }",                 // both bounds ahead of the for
		"if true { print ^true < true; } else if 1 { }", // the other way behind the first
		"if true { } else if ^1 { print -true; }",
		"if true { } else { print -^true; } print -true;",
		"{ { print -^true; } } print -true;",
		`var t: text = "a"; t[0] = 1 + ^true;`,         // the value ahead of the assignment
		`var t: text = "a"; ^t[0] = true;`,             // the place ahead of the value's type
		`var t: text = "a"; t[^true] = 1;`,             // the index ahead of what cannot be set
		`var t: text = "a"; ^t[0][0] = 1;`,             // an int has no elements
		`var t: text = "a"; read t[^t];`,               //
		"var a: [[[[int]]]] = new [[[[int]]]][^true];", // the length ahead of the brackets
		"var a: int = ^new [[[[int]]]][1];",            //
		`print "a"[^true] + true;`,
		"print ^1[true];", // what is indexed ahead of the index
		"print 1[-^true];",
		"main(1 + ^true); main(1);", // arguments ahead of their number
		"while true { break; print -^true; } return true + true;",
	} {
		refuses(t, inMain(body), api.ErrType)
	}
	refuses(t, inMain("print ^main(1) + -1, -true;"), api.ErrCount)
	refuses(t, "fn f(): int { return -^true; } fn main() { print -true; }", api.ErrType)
	refuses(t, "fn main() { print 1; } fn f(a: bool): int { return ^a; } fn g(): int { return true; }", api.ErrType)
	refuses(t, "fn f(a: int) { } fn main() { f(1, ^true + 1); }", api.ErrType)
}

// prelude declares a variable of each type.
func prelude() string {
	var b strings.Builder
	for _, typing := range everyType {
		value := map[string]string{"int": "7", "bool": "true", "text": `"a"`}[typing]
		if value == "" {
			value = "new " + typing[1:len(typing)-1] + "[1]"
		}
		b.WriteString("var " + nameOf(typing) + ": " + typing + " = " + value + "; ")
	}
	return b.String()
}

// nameOf is a variable's name for each type; for none, a call of a function without a result.
func nameOf(typing string) string {
	if typing == "" {
		return "none()"
	}
	return "v_" + strings.NewReplacer("[", "of_", "]", "").Replace(typing)
}

// operands is an expression of each type, and one of none.
func operands() []string {
	all := []string{"none()"}
	for _, typing := range everyType {
		all = append(all, nameOf(typing))
	}
	return all
}

// tries checks that a statement is judged by the chapter's words, behind the prelude.
func tries(t *testing.T, statement string) bool {
	t.Helper()
	p, _ := named(t, "fn none() { } fn main() { "+prelude()+statement+" }")
	problem := holds(t, p)
	types := make([]string, len(p.Nodes))
	follows(t, p, types)
	return problem.Code == api.OK
}

// P7.1, P7.2: every operator and every statement with operands of all types, and of none.
func TestEveryOperand(t *testing.T) {
	taken := map[string]int{}
	try := func(form, a, b string) {
		if tries(t, strings.NewReplacer("A", a, "B", b).Replace(form)) {
			taken[form]++
		}
	}
	for _, a := range operands() {
		for _, form := range []string{"print -A;", "print !A;", "print len(A);", "print str(A);", "print A;", "print 1, A;", "if A { }", "while A { }", "return A;", "print len(new bool[A]);", "return A == A;"} {
			try(form, a, "")
		}
		for _, b := range operands() {
			for _, op := range []string{"+", "-", "*", "/", "%", "==", "!=", "<", "<=", ">", ">=", "&&", "||"} {
				try("return A "+op+" B;", a, b)
			}
			try("return A[B];", a, b)
			try("for i = A to B { }", a, b)
			if a == "none()" {
				continue
			}
			for _, form := range []string{"A = B;", "read A[B];", "A[B] = v_int;", "A[B] = v_text;", "A[B] = v_of_int;", "A[B] = none();"} {
				try(form, a, b)
			}
		}
		if a != "none()" {
			try("read A;", a, "")
		}
	}
	wanted := map[string]int{
		"print -A;": 1, "print !A;": 1, "print len(A);": 13, "print str(A);": 3, "print A;": 3, "print 1, A;": 3, "if A { }": 1, "while A { }": 1, "return A;": 16, "print len(new bool[A]);": 1, "return A == A;": 15,
		"return A + B;": 2, "return A - B;": 1, "return A * B;": 1, "return A / B;": 1, "return A % B;": 1, "return A == B;": 15, "return A != B;": 15,
		"return A < B;": 2, "return A <= B;": 2, "return A > B;": 2, "return A >= B;": 2, "return A && B;": 1, "return A || B;": 1,
		"return A[B];": 13, "for i = A to B { }": 1, "A = B;": 15, "read A[B];": 1, "A[B] = v_int;": 1, "A[B] = v_text;": 1, "A[B] = v_of_int;": 1, "read A;": 1,
	}
	if told(taken) != told(wanted) {
		t.Errorf("taken: %v, want %v", taken, wanted)
	}
}

// P7.1: results and parameters of all types, given all types.
func TestEveryWayInAndOut(t *testing.T) {
	taken := map[string]int{}
	for _, a := range append(slices.Clone(everyType), "") {
		result := ": " + a
		if a == "" {
			result = ""
		}
		for _, b := range append(slices.Clone(everyType), "") {
			value := strings.ReplaceAll(nameOf(b), "none()", "main()")
			p, _ := named(t, "fn main() { } fn f()"+result+" { "+prelude()+" { return "+value+"; } return; }")
			if problem := holds(t, p); problem.Code == api.OK {
				taken["result"]++
			}
			if a == "" {
				continue
			}
			p, _ = named(t, "fn f(b: bool, a: "+a+") { } fn main() { "+prelude()+"f(true, "+value+"); }")
			if problem := holds(t, p); problem.Code == api.OK {
				taken["argument"]++
			}
			p, _ = named(t, "fn main() { "+prelude()+"{ var x: "+a+" = "+value+"; } }")
			if problem := holds(t, p); problem.Code == api.OK {
				taken["var"]++
			}
			if b != "" {
				p, _ = named(t, "fn main() { "+prelude()+"{ "+nameOf(b)+" = new "+a+"[v_int]; } }")
				if problem := holds(t, p); problem.Code == api.OK {
					taken["new"]++
				}
			}
		}
	}
	wanted := map[string]int{"result": 15 + 16, "argument": 15, "var": 15, "new": 12}
	if told(taken) != told(wanted) {
		t.Errorf("taken: %v, want %v", taken, wanted)
	}
}

// P7.1: calls with all numbers of parameters and arguments.
func TestCounts(t *testing.T) {
	for params := range api.MaxParams + 1 {
		for args := range api.MaxParams + 3 {
			var declared []string
			for i := range params {
				declared = append(declared, fmt.Sprintf("p%d: int", i))
			}
			handed := strings.TrimSuffix(strings.Repeat("1, ", args), ", ")
			head := "fn f(" + strings.Join(declared, ", ") + ") { } fn main() { "
			if params == args {
				takes(t, head+"f("+handed+"); }")
			} else {
				refuses(t, head+"^f("+handed+"); }", api.ErrCount)
			}
		}
	}
}

// notTypes is texts that are no types, but look a little so.
var notTypes = []string{"void", "[void]", "[[[[[int]]]]]", "[[[[[text]]]]]", "[]", "[", "]", "[int", "int]", " int", "int ", "Int", "[int][", "[[bool]", "intint", "\x00", "x"}

// said is something that may be said to be a type.
func said(r *rand.Rand) string {
	switch r.Intn(4) {
	case 0:
		return notTypes[r.Intn(len(notTypes))]
	case 1:
		return ""
	}
	return everyType[r.Intn(len(everyType))]
}

// P7.1, P7.2, P7.5: grown programs, tame and wild ones; of their types one and several changed.
func TestGrown(t *testing.T) {
	codes := map[api.Errno]int{}
	breaks := map[api.Kind]int{}
	count := 9000
	if testing.Short() {
		count = 900
	}
	for i := range count {
		g := &grower{Rand: rand.New(rand.NewSource(int64(i))), wild: []int{0, 4, 15}[i%3]}
		p := g.program().tree()
		if len(p.Nodes) > 250 {
			continue
		}
		problem := holds(t, p)
		codes[problem.Code]++
		if g.wild == 0 && problem.Code != api.OK {
			t.Fatalf("a tame program has the problem %v:\n%s", problem, dump(p))
		}
		right, _ := wantCheck(p)
		if right == nil {
			right = make([]string, len(p.Nodes))
		}
		for range 8 {
			types := slices.Clone(right)
			for range 1 + g.Intn(2)*g.Intn(5) {
				types[g.Intn(len(types))] = said(g.Rand)
			}
			if !follows(t, p, types) {
				_, n := wantFollows(p, types)
				breaks[p.Nodes[n].Kind]++
			}
		}
	}
	for _, errno := range []api.Errno{api.OK, api.ErrType, api.ErrCount} {
		if codes[errno] < count/100 {
			t.Errorf("error %d was reached %d times only: %v", errno, codes[errno], codes)
		}
	}
	for kind := api.KProgram; kind <= api.KStr; kind++ {
		if some := breaks[kind]; !testing.Short() && some < 10 && (kind <= api.KFor || kind >= api.KReturn && kind <= api.KDo || kind >= api.KInt) {
			t.Errorf("kind %d broke the rules %d times only", kind, some)
		}
	}
}

// P7.5: of all lists of types, over a few, Follows takes the one that Check answers and no other.
func TestNoOtherTypes(t *testing.T) {
	pool := []string{"", "int", "bool", "text", "[int]", "void"}
	for _, source := range []string{
		"fn main() { print 1; }", "fn main() { return 1; }", "fn main() { main(); }", "fn main() { return main(); }", "fn main() { print -1; }", "fn main() { return; }",
		"fn f(a: int) { a = a; } fn main() { }", "fn f(a: text) { a[1] = 1; } fn main() { }", "fn f(a: [int]) { read a[1]; } fn main() { }", "fn main() { return new int[1] == 1; }",
		"fn main() { return 1 == true; }", "fn main() { return -true; }", "fn main() { return 1 == 1; }", "fn f(): int { return true; } fn main() { }", "fn f(a: int) { f(a); } fn main() { }", "fn f(a: int) { f(); } fn main() { }",
	} {
		p, s := named(t, source)
		right, problem := Check(p, s)
		count := 0
		types := make([]string, len(p.Nodes))
		var fill func(n int)
		fill = func(n int) {
			if n == len(types) {
				if ok, _ := Follows(p, s, types); ok {
					count++
					if !slices.Equal(types, right) {
						t.Errorf("%q: %q is taken, %q is answered", source, types, right)
					}
				}
				return
			}
			for _, typing := range pool {
				if p.Nodes[n].Kind < api.KInt && typing != "" && typing != "void" {
					continue
				}
				types[n] = typing
				fill(n + 1)
			}
		}
		fill(0)
		if wanted := problem.Code == api.OK; (count > 0) != wanted {
			t.Errorf("%q: %d lists are taken, the problem is %v", source, count, problem)
		}
	}
}

// P7.2: the first node that breaks the rules, by its number, where several do.
func TestFirstByNumber(t *testing.T) {
	p, s := named(t, "fn f(a: int) { a = a; print a == a, -a; } fn main() { }")
	right := []string{"", "", "", "", "", "int", "int", "", "bool", "int", "int", "int", "int", "", ""}
	if types, problem := Check(p, s); problem.Code != api.OK || !slices.Equal(types, right) {
		t.Fatalf("%q, %v, of\n%s", types, problem, dump(p))
	}
	for _, c := range []struct {
		node  int
		types string
		want  int
	}{
		{0, "x", 0}, {0, "int", 0}, {2, "int", 2}, {4, "int", 4}, {7, "bool", 7}, {13, "x", 13}, {14, "x", 14},
		{5, "bool", 4},  // the value has another type than the place
		{6, "bool", 4},  //
		{8, "int", 8},   // may be printed, but is none
		{8, "[int]", 7}, // may not
		{8, "", 7}, {8, "void", 7},
		{9, "bool", 8}, {10, "text", 8}, {9, "", 8}, {10, "void", 8},
		{11, "text", 11}, {11, "[int]", 7}, {12, "bool", 11},
	} {
		types := slices.Clone(right)
		types[c.node] = c.types
		if ok, n := Follows(p, s, types); ok || n != c.want {
			t.Errorf("node %d said to be %q: %v, %d, want %d", c.node, c.types, ok, n, c.want)
		}
	}
	// What both sides are said to be is the same, but no type.
	for _, no := range append([]string{""}, notTypes...) {
		types := slices.Clone(right)
		types[5], types[6] = no, no
		if ok, n := Follows(p, s, types); ok || n != 4 {
			t.Errorf("both sides of = said to be %q: %v, %d", no, ok, n)
		}
		types = slices.Clone(right)
		types[9], types[10] = no, no
		if ok, n := Follows(p, s, types); ok || n != 8 {
			t.Errorf("both sides of == said to be %q: %v, %d", no, ok, n)
		}
	}
	// Another type that both sides are said to be breaks the rules at the names.
	types := slices.Clone(right)
	types[5], types[6] = "text", "text"
	if ok, n := Follows(p, s, types); ok || n != 5 {
		t.Errorf("another type: %v, %d", ok, n)
	}
}

// P7.2: another number of types than of nodes.
func TestFollowsCounts(t *testing.T) {
	p, s := named(t, "fn main() { print 1; }")
	right, _ := Check(p, s)
	for _, types := range [][]string{nil, {}, right[1:], right[:len(right)-1], append(slices.Clone(right), ""), append([]string{""}, right...)} {
		if ok, n := Follows(p, s, types); ok || n != 0 {
			t.Errorf("%d types of %d nodes: %v, %d", len(types), len(right), ok, n)
		}
	}
}

// scopedTexts and scopedNumbers are pointers to all that a Scoped has.
func scopedTexts(s api.Scoped) []*string {
	var all []*string
	for i := range s.Funcs {
		f := &s.Funcs[i]
		all = append(all, &f.Name, &f.Result)
		for j := range f.Vars {
			all = append(all, &f.Vars[j].Name, &f.Vars[j].Type)
		}
	}
	return all
}

func scopedNumbers(s api.Scoped) []*int {
	var all []*int
	for i := range s.Funcs {
		f := &s.Funcs[i]
		all = append(all, &f.Node, &f.Params, &f.Slots)
		for j := range f.Vars {
			all = append(all, &f.Vars[j].Slot, &f.Vars[j].Node)
		}
	}
	for _, list := range [][]int{s.Slots, s.Calls, s.Targets, s.Owners} {
		for i := range list {
			all = append(all, &list[i])
		}
	}
	return all
}

// P7.1, P7.2: another Scoped than the tree's.
func TestAnotherScoped(t *testing.T) {
	p, s := named(t, "fn f(p: int): int { l: for i = 1 to p { break l; } return 1; } fn e() { } fn main() { var x: int = f(1); x = x; }")
	right, problem := Check(p, s)
	if problem.Code != api.OK {
		t.Fatalf("%v", problem)
	}
	refused := func(what string, c api.Scoped) {
		t.Helper()
		if types, problem := Check(p, c); types != nil || problem != (api.Problem{Code: api.ErrArg}) {
			t.Errorf("%s: %q, %v", what, types, problem)
		}
		if ok, n := Follows(p, c, right); ok || n != 0 {
			t.Errorf("%s: %v, %d", what, ok, n)
		}
	}
	for _, text := range scopedTexts(s) {
		kept := *text
		*text += "x"
		refused("a text changed", s)
		*text = kept
	}
	for _, number := range scopedNumbers(s) {
		for _, by := range []int{-1, 1, 1 << 40} {
			*number += by
			refused("a number changed", s)
			*number -= by
		}
	}
	for what, change := range map[string]func(c *api.Scoped){
		"no functions":           func(c *api.Scoped) { c.Funcs = nil },
		"a function too few":     func(c *api.Scoped) { c.Funcs = c.Funcs[1:] },
		"a function too many":    func(c *api.Scoped) { c.Funcs = append(slices.Clone(c.Funcs), api.Func{}) },
		"no slots":               func(c *api.Scoped) { c.Slots = nil },
		"a slot too many":        func(c *api.Scoped) { c.Slots = append(slices.Clone(c.Slots), -1) },
		"no calls":               func(c *api.Scoped) { c.Calls = nil },
		"a call too few":         func(c *api.Scoped) { c.Calls = c.Calls[1:] },
		"no targets":             func(c *api.Scoped) { c.Targets = nil },
		"no owners":              func(c *api.Scoped) { c.Owners = nil },
		"a variable too many":    func(c *api.Scoped) { c.Funcs = slices.Clone(c.Funcs); c.Funcs[1].Vars = make([]api.Var, 1) },
		"a variable too few":     func(c *api.Scoped) { c.Funcs = slices.Clone(c.Funcs); c.Funcs[0].Vars = c.Funcs[0].Vars[1:] },
		"nothing":                func(c *api.Scoped) { *c = api.Scoped{} },
		"that of a part of it":   func(c *api.Scoped) { _, *c = named(t, "fn main() { }") },
		"that of another source": func(c *api.Scoped) { _, *c = named(t, "fn f(): int { } fn e() { } fn main() { }") },
	} {
		c := s
		change(&c)
		refused(what, c)
	}
	// Lists that are empty may be nil or not.
	for _, vars := range [][]api.Var{nil, {}, make([]api.Var, 0, 3)} {
		s.Funcs[1].Vars = vars
		if types, problem := Check(p, s); problem.Code != api.OK || !slices.Equal(types, right) {
			t.Errorf("with Vars %#v: %v", vars, problem)
		}
	}
}

// P7.1, P7.2: trees whose names mean nothing, and lists that are no program's tree.
func TestNoProgram(t *testing.T) {
	for what, source := range map[string]string{
		"an unseen name":    "fn main() { print x; }",
		"no main":           "fn f() { }",
		"a main too many":   "fn main() { } fn main() { }",
		"a break":           "fn main() { break; }",
		"a name twice":      "fn f(a: int, a: int) { } fn main() { print -true; }",
		"a main with a way": "fn main(): int { return true; }",
	} {
		p, problem := parse.Program(source)
		if problem.Code != api.OK {
			t.Fatalf("%s: %v", what, problem)
		}
		refusesTree(t, what, p)
	}
	for what, nodes := range map[string][]api.Node{
		"none":                  nil,
		"an empty list":         {},
		"an expression":         {{Kind: api.KInt, At: 5, Size: 1}},
		"a function":            {{Kind: api.KFunc, Name: "main", At: 5, Size: 2}, {Kind: api.KBlock, Size: 1}},
		"a program of Size 2":   {{Kind: api.KProgram, At: 5, Size: 2}},
		"a program with a name": {{Kind: api.KProgram, Name: "x", Size: 1}},
		"kind 0":                {{At: 5, Size: 1}},
	} {
		refusesTree(t, what, api.Tree{Nodes: nodes})
	}
}

func refusesTree(t *testing.T, what string, p api.Tree) {
	t.Helper()
	_, main := named(t, "fn main() { }")
	s, _ := scope.Resolve(p)
	for _, c := range []api.Scoped{s, {}, main} {
		if types, problem := Check(p, c); types != nil || problem != (api.Problem{Code: api.ErrArg}) {
			t.Errorf("%s: %q, %v", what, types, problem)
		}
		if ok, n := Follows(p, c, make([]string, len(p.Nodes))); ok || n != 0 {
			t.Errorf("%s: %v, %d", what, ok, n)
		}
	}
}

// P7.4: sorts and kinds of all types, and of texts that are none.
func TestSortsAndKinds(t *testing.T) {
	wantSorts := map[string]api.Sort{}
	wantKinds := map[string]api.ValueKind{}
	for i, typing := range everyType {
		wantSorts[typing] = api.Sort(i/5 + 1 + 4*(i%5))
		wantKinds[typing] = api.ValRef
	}
	wantKinds["int"], wantKinds["bool"], wantKinds["text"] = api.ValInt, api.ValBool, api.ValText
	asked := func(text string) {
		t.Helper()
		if got := Sort(text); got != wantSorts[text] {
			t.Errorf("Sort(%q) = %d, want %d", text, got, wantSorts[text])
		}
		if got := Kind(text); got != wantKinds[text] {
			t.Errorf("Kind(%q) = %d, want %d", text, got, wantKinds[text])
		}
	}
	for text, sort := range map[string]api.Sort{"int": 1, "bool": 2, "text": 3, "[int]": 5, "[bool]": 6, "[text]": 7, "[[int]]": 9, "[[[[int]]]]": 17, "[[[[bool]]]]": 18, "[[[[text]]]]": 19, "[[[[[int]]]]]": 0, "[ int]": 0, "": 0} {
		if got := Sort(text); got != sort {
			t.Errorf("Sort(%q) = %d, want %d", text, got, sort)
		}
	}
	for text, kind := range map[string]api.ValueKind{"int": api.ValInt, "bool": api.ValBool, "text": api.ValText, "[int]": api.ValRef, "[[int]]": api.ValRef, "[[[[text]]]]": api.ValRef, "void": api.ValNone, "": api.ValNone, "[": api.ValNone, "[[[[[int]]]]]": api.ValNone} {
		if got := Kind(text); got != kind {
			t.Errorf("Kind(%q) = %d, want %d", text, got, kind)
		}
	}
	for _, text := range notTypes {
		asked(text)
	}
	// Every type with a byte left out, put in, or replaced, wherever.
	for _, typing := range everyType {
		asked(typing)
		for at := range len(typing) + 1 {
			for _, piece := range []string{"", "[", "]", " ", "i", "\x00", "\xff", "int", "[]", "[int]"} {
				asked(typing[:at] + piece + typing[at:])
				if at < len(typing) {
					asked(typing[:at] + piece + typing[at+1:])
				}
			}
			asked(typing[:at])
			asked(typing[at:])
		}
	}
	for _, word := range []string{"int", "x", ""} {
		for opened := range 8 {
			for closed := range 8 {
				asked(strings.Repeat("[", opened) + word + strings.Repeat("]", closed))
			}
		}
	}
	long := strings.Repeat("[", 1<<20) + "int" + strings.Repeat("]", 1<<20)
	if Sort(long) != 0 || Kind(long) != api.ValNone {
		t.Errorf("a long text is a type")
	}
}
