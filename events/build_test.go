package events

import (
	"math/rand"
	"reflect"
	"slices"
	"strconv"
	"strings"
	"testing"

	"retrace/api"
	"retrace/compile"
	"retrace/flow"
	"retrace/hooks"
	"retrace/lex"
)

// same holds two built programs against each other by their content; a list that is empty may be nil or not.
func same(a, b Built) bool {
	return reflect.DeepEqual(withoutEmpty(reflect.ValueOf(a)), withoutEmpty(reflect.ValueOf(b)))
}

// withoutEmpty tells a value as nested lists, in which lists that are empty are nil.
func withoutEmpty(v reflect.Value) any {
	var all []any
	switch v.Kind() {
	case reflect.Struct:
		for n := range v.NumField() {
			all = append(all, withoutEmpty(v.Field(n)))
		}
	case reflect.Slice:
		for n := range v.Len() {
			all = append(all, withoutEmpty(v.Index(n)))
		}
	default:
		return v.Interface()
	}
	return all
}

// wantBuild is P17.2, sentence by sentence.
func wantBuild(text string) (Built, api.Problem) {
	p, problem := flow.Front(text)
	if problem.Code != api.OK {
		return Built{}, problem
	}
	hooked, table, errno := hooks.Instrument(p)
	if errno != api.OK {
		return Built{}, api.Problem{Code: errno}
	}
	q, problem := flow.Tree(hooked)
	if problem.Code != api.OK {
		return Built{}, problem
	}
	made, errno := compile.Program(q)
	if errno != api.OK {
		return Built{}, api.Problem{Code: errno}
	}
	return Built{Program: p, Code: made, Table: table}, api.Problem{}
}

// builds asks that a text is built as the chapter says, and that all that the front takes is.
func builds(t *testing.T, text string) (Built, api.Problem) {
	t.Helper()
	want, wanted := wantBuild(text)
	got, problem := Build(text)
	if problem != wanted || !same(got, want) {
		t.Fatalf("%.300q: %v, want %v", text, problem, wanted)
	}
	if _, front := flow.Front(text); problem != front || problem.At < 0 || problem.At > len(text) {
		t.Fatalf("%.300q: %v, but the front's problem is %v", text, problem, front)
	}
	return got, problem
}

// P17.2: what each part of the front refuses.
func TestBuildRefuses(t *testing.T) {
	for _, row := range []struct {
		text string
		want api.Problem
	}{
		{"", api.Problem{Code: api.ErrMain}},
		{"# nothing", api.Problem{Code: api.ErrMain, At: 9}},
		{" fn f() { }", api.Problem{Code: api.ErrMain, At: 1}},
		{"fn main(): int { return 1; }", api.Problem{Code: api.ErrMain}},
		{"$", api.Problem{Code: api.ErrByte}},
		{"fn main() { print 007; }", api.Problem{Code: api.ErrNumber, At: 18}},
		{"fn main() { print \"a; }", api.Problem{Code: api.ErrText, At: 18}},
		{"fn main() { print 1 }", api.Problem{Code: api.ErrToken, At: 20}},
		{"fn main() {", api.Problem{Code: api.ErrToken, At: 11}},
		{"fn main() { print " + strings.Repeat("-", 40) + "1; }", api.Problem{Code: api.ErrDeep, At: 58}},
		{"fn main() { x = 1; }", api.Problem{Code: api.ErrUnseen, At: 12}},
		{"fn main() { var x: int = true; }", api.Problem{Code: api.ErrType, At: 25}},
		{"fn f(a: int) { } fn main() { f(); }", api.Problem{Code: api.ErrCount, At: 29}},
		{"fn f(): int { } fn main() { }", api.Problem{Code: api.ErrReturn}},
		{"fn main() { @1; }", api.Problem{Code: api.ErrHook, At: 12}},
		{"fn main() { return @1; }", api.Problem{Code: api.ErrHook, At: 12}},
		{strings.Repeat(" ", 20001), api.Problem{Code: api.ErrSize, At: 20000}},
		{"fn main() {" + strings.Repeat("{}", 3998) + "}", api.Problem{Code: api.ErrSize, At: 11 + 2*3997}},
	} {
		if _, problem := builds(t, row.text); problem != row.want {
			t.Errorf("%.100q: %v, want %v", row.text, problem, row.want)
		}
	}
}

// nested is calls of a function with eight parameters, each the last argument of the one around it.
func nested(calls int, inner string) string {
	return strings.Repeat("f(1, 2, 3, 4, 5, 6, 7, ", calls) + inner + strings.Repeat(")", calls)
}

// great are sources that are as great as the front takes them, in one thing or another.
func great() map[string]string {
	eight := "fn f(a: int, b: int, c: int, d: int, e: int, f: int, g: int, h: int): int { return a + h; } "
	functions := "fn main() { f58(); }"
	for f := range 59 {
		functions += " fn f" + strconv.Itoa(f) + "() { }"
	}
	texts := "fn main() {"
	for n := range 2000 {
		if n%16 == 0 {
			texts += "print \"\""
		} else {
			texts += ",\"" + strconv.FormatInt(int64(n), 36) + "\""
		}
		if n%16 == 15 {
			texts += ";"
		}
	}
	return map[string]string{
		"nothing":       "fn main() { }",
		"bytes":         "fn main() { print 1; }" + strings.Repeat(" ", 20000-22),
		"nodes":         "fn main() {" + strings.Repeat("{}", 3997) + "}",
		"statements":    "fn main() {" + strings.Repeat("print 1;", 1998) + "{}}",
		"returns":       "fn main() {" + strings.Repeat("return;", 2800) + "}",
		"assignments":   "fn main() { var x: int = 1;" + strings.Repeat("x=x;", 1331) + "}",
		"stack":         eight + "fn main() { print 1, 2, 3, 4, 5, 6, 7, 8, 9, 10, 11, 12, 13, 14, 15, " + nested(39, "8") + "; }",
		"slots":         "fn main() { var v: text = \"\"; " + strings.Repeat("for i = 1 to 2 { } ", 83) + "}",
		"loops":         "fn main() { for i = 1 to 2 { } " + strings.Repeat("while false { } ", 1200) + "}",
		"functions":     functions,
		"texts":         texts + "}",
		"blocks":        "fn main() " + strings.Repeat("{", 40) + strings.Repeat("}", 40),
		"a long text":   "fn main() { print \"" + strings.Repeat("\\x00", 200) + "\"; }",
		"a long name":   "fn main() { var " + strings.Repeat("n", 24) + ": int = 9223372036854775807; }",
		"arrays":        "fn main() { var a: [[[[text]]]] = new [[[text]]][2]; a[0] = new [[text]][1]; a[0][0] = new [text][1]; a[0][0][0] = new text[1]; a[0][0][0][0] = \"x\"; print a[0][0][0][0]; }",
		"a dead ending": "fn f(): int { while true { return 1; print 2; } return 3; } fn main() { f(); return; print 4; }",
	}
}

// P17.2: sources as great as the front takes them are built too, run and end as they are meant.
func TestBuildGreat(t *testing.T) {
	for what, text := range great() {
		made, problem := builds(t, text)
		if problem != (api.Problem{}) {
			t.Errorf("%s: %v", what, problem)
			continue
		}
		g := grown{made, nil, wide}
		run := g.run(t, api.MaxBudget)
		if walked := g.walked(t, api.MaxBudget); run.Outcome != ended() || !endsAlike(run, walked) || !slices.Equal(run.Events, walked.Events) {
			t.Errorf("%s: %v, want %v", what, run.Outcome, walked.Outcome)
		}
	}
	high := built(t, great()["stack"])
	if _, problem := Build(strings.Replace(high.Program.Text, ", 8)", ", f(1, 2, 3, 4, 5, 6, 7, 8))", 1)); problem.Code != api.ErrDeep {
		t.Errorf("one call more: %v", problem)
	}
}

// P17.2: the parts behind the front, each with what no source can lead to: what they tell is a problem without a place, but for that of a tree.
func TestBuildParts(t *testing.T) {
	program := func(statements ...api.Node) api.Program {
		size := len(statements)
		nodes := append([]api.Node{{Kind: api.KProgram, Size: size + 3}, {Kind: api.KFunc, Name: "main", Size: size + 2}, {Kind: api.KBlock, Size: size + 1}}, statements...)
		p, problem := flow.Tree(api.Tree{Nodes: nodes})
		if problem.Code != api.OK {
			t.Fatal(problem)
		}
		return p
	}
	leaf := api.Node{Kind: api.KInt, Int: 1, Size: 1}
	high := []api.Node{{Kind: api.KPrint, Size: 802}}
	for n := range 400 {
		high = append(high, api.Node{Kind: api.KBinary, Op: api.OpAdd, Size: 801 - 2*n}, leaf)
	}
	blocks := slices.Repeat([]api.Node{{Kind: api.KBlock, Size: 1}}, 14000)
	lost := api.Tree{Nodes: []api.Node{{Kind: api.KProgram, Size: 4}, {Kind: api.KFunc, Name: "main", Size: 3}, {Kind: api.KBlock, Size: 2}, {Kind: api.KHook, Int: 1, Name: "x", At: 77, Size: 1}}}
	for what, row := range map[string]struct {
		part func() api.Problem
		want api.Problem
	}{
		"nothing to instrument":       {(&builder{}).instrument, api.Problem{Code: api.ErrArg}},
		"hooks already":               {(&builder{built: Built{Program: program(api.Node{Kind: api.KHook, Int: 1, At: 5, Size: 1})}}).instrument, api.Problem{Code: api.ErrArg}},
		"too great with hooks":        {(&builder{built: Built{Program: program(blocks...)}}).instrument, api.Problem{Code: api.ErrSize}},
		"no tree":                     {(&builder{}).checkHooked, api.Problem{Code: api.ErrTree}},
		"a hook whose name is unseen": {(&builder{tree: lost}).checkHooked, api.Problem{Code: api.ErrUnseen, At: 77}},
		"nothing to compile":          {(&builder{}).compile, api.Problem{Code: api.ErrArg}},
		"too high":                    {(&builder{hooked: program(append(high, leaf)...)}).compile, api.Problem{Code: api.ErrSize}},
		"no source":                   {(&builder{}).check, api.Problem{Code: api.ErrMain}},
	} {
		if got := row.part(); got != row.want {
			t.Errorf("%s: %v, want %v", what, got, row.want)
		}
	}
}

// swapped is a source in which something is printed that was returned, or the other way.
func swapped(g *rand.Rand, text string) string {
	words := [][2]string{{"print ", "return "}, {"return ", "print "}}[g.Intn(2)]
	pieces := strings.Split(text, words[0])
	if len(pieces) < 2 {
		return text
	}
	at := 1 + g.Intn(len(pieces)-1)
	return strings.Join(pieces[:at], words[0]) + words[1] + strings.Join(pieces[at:], words[0])
}

// changed is a source with a few of its bytes changed, or with a few of its words being other ones of it.
func changed(g *rand.Rand, text string) string {
	if g.Intn(10) == 0 {
		return swapped(g, text)
	}
	const edits = "1a;{}()[] :=,@<\"\n!-"
	bytes := []byte(text)
	if g.Intn(3) == 0 {
		for range 1 + g.Intn(3) {
			bytes[g.Intn(len(bytes))] = edits[g.Intn(len(edits))]
		}
		return string(bytes)
	}
	tokens, _ := lex.Scan(text)
	for range 1 + g.Intn(3) {
		one := tokens[g.Intn(len(tokens)-1)]
		alike := slices.DeleteFunc(slices.Clone(tokens), func(t api.Token) bool { return t.Kind != one.Kind })
		other := alike[g.Intn(len(alike))]
		word := text[other.At:other.End]
		if one.Kind == api.TokKeyword && g.Intn(2) == 0 {
			word = []string{"int", "bool", "text", "break", "true", "print"}[g.Intn(6)]
		}
		text = text[:one.At] + word + text[one.End:]
		if tokens, _ = lex.Scan(text); len(tokens) < 2 {
			break
		}
	}
	return text
}

// P17.2: grown sources, right and wrong ones.
func TestBuildGrown(t *testing.T) {
	codes := map[api.Errno]int{}
	for seed := range seeds(1200) {
		g := &grower{Rand: newRand(seed), hooks: seed%3 == 0}
		text := g.source()
		_, problem := builds(t, text)
		if problem.Code != api.OK && !g.hooks {
			t.Fatalf("%s: %v", text, problem)
		}
		codes[problem.Code]++
		_, problem = builds(t, changed(g.Rand, text))
		codes[problem.Code]++
	}
	for _, errno := range []api.Errno{api.OK, api.ErrToken, api.ErrUnseen, api.ErrType, api.ErrReturn, api.ErrHook} {
		if codes[errno] < int(seeds(10)) {
			t.Errorf("error %d came too seldom: %v", errno, codes)
		}
	}
}

// P17.9: texts of any bytes.
func TestBuildAnything(t *testing.T) {
	words := strings.Fields("fn main ( ) { } [ ] var x : int = 1 ; if else while for to break continue return print read true new len str @ + - < && \"a\" # \x00 \xff $")
	for seed := range seeds(20000) {
		g := newRand(seed)
		text := []string{"", "fn main() {", "fn main() { var x: int = 1; "}[g.Intn(3)]
		for range g.Intn(8) {
			text += words[g.Intn(len(words))] + []string{" ", ""}[g.Intn(2)]
		}
		if g.Intn(2) == 0 {
			text += "}"
		}
		builds(t, text)
	}
}
