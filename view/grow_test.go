package view

import (
	"math/rand"
	"strconv"
	"strings"
	"testing"

	"retrace/api"
	"retrace/flow"
	"retrace/parse"
)

// grower makes sources that are right in all that the front asks for, and whose runs go on for a while.
type grower struct {
	*rand.Rand
	hooks  bool
	funcs  []signature
	result string
	vars   []variable // that are seen, the innermost last
	labels []string   // of the loops around; those without one are ""
	names  int
}

type signature struct {
	name   string
	params []string
	result string
}

type variable struct {
	name, typing string
}

func (g *grower) typing() string {
	return []string{"int", "int", "int", "bool", "text", "[int]", "[int]", "[text]", "[[int]]", "[bool]"}[g.Intn(10)]
}

func (g *grower) source() string {
	g.funcs = []signature{{name: "main"}}
	for i := range g.Intn(4) {
		f := signature{name: "f" + strconv.Itoa(i)}
		for range g.Intn(4) {
			f.params = append(f.params, g.typing())
		}
		if g.Intn(3) > 0 {
			f.result = g.typing()
		}
		g.funcs = append(g.funcs, f)
	}
	g.Shuffle(len(g.funcs), func(i, j int) { g.funcs[i], g.funcs[j] = g.funcs[j], g.funcs[i] })
	var out strings.Builder
	for _, f := range g.funcs {
		out.WriteString(g.function(f))
	}
	return out.String()
}

func (g *grower) function(f signature) string {
	g.result, g.vars, g.labels, g.names = f.result, nil, nil, 0
	var params []string
	for _, typing := range f.params {
		params = append(params, g.declare(typing)+": "+typing)
	}
	text := "fn " + f.name + "(" + strings.Join(params, ", ") + ")"
	if f.result != "" {
		text += ": " + f.result
	}
	body := ""
	for _, typing := range []string{"int", "[int]"} {
		value := g.expression(typing, 2)
		body += "var " + g.declare(typing) + ": " + typing + " = " + value + "; "
	}
	body += g.list(3 + g.Intn(5))
	if f.result != "" {
		body += g.returning(2)
	}
	return text + " { " + body + "}\n"
}

// declare makes a variable be seen, under a name of its own.
func (g *grower) declare(typing string) string {
	g.names++
	name := "v" + strconv.Itoa(g.names)
	g.vars = append(g.vars, variable{name, typing})
	return name
}

// hide makes a variable be seen, now and then under a name of a block further out; own is where its own block's variables begin.
func (g *grower) hide(own int, typing string) string {
	if outer := g.vars[:own]; len(outer) > 0 && g.Intn(3) == 0 {
		name := outer[g.Intn(len(outer))].name
		for _, v := range g.vars[own:] {
			if v.name == name {
				return g.declare(typing)
			}
		}
		g.vars = append(g.vars, variable{name, typing})
		return name
	}
	return g.declare(typing)
}

// seen tells a variable of that type that its name means.
func (g *grower) seen(typing string) (string, bool) {
	var names []string
	hidden := map[string]bool{}
	for i := len(g.vars) - 1; i >= 0; i-- {
		if v := g.vars[i]; !hidden[v.name] {
			hidden[v.name] = true
			if v.typing == typing {
				names = append(names, v.name)
			}
		}
	}
	if len(names) == 0 {
		return "", false
	}
	return names[g.Intn(len(names))], true
}

func (g *grower) block(left int) string {
	own := len(g.vars)
	text := "{ " + g.within(own, left) + "}"
	g.vars = g.vars[:own]
	return text
}

// within is the statements of a block whose variables are those from own on.
func (g *grower) within(own, left int) string {
	text := ""
	for range g.Intn(4) {
		text += g.statement(own, left-1)
	}
	return text
}

// list is a body's statements.
func (g *grower) list(count int) string {
	text := ""
	for range count {
		text += g.statement(0, 3)
	}
	return text
}

func (g *grower) statement(own, left int) string {
	switch g.Intn(30) {
	case 0, 1, 2:
		typing := g.typing()
		value := g.expression(typing, 3)
		return "var " + g.hide(own, typing) + ": " + typing + " = " + value + "; "
	case 3, 4, 5, 6:
		typing := g.typing()
		if name, ok := g.seen(typing); ok {
			return name + " = " + g.expression(typing, 3) + "; "
		}
	case 7, 8, 9:
		if array, typing, ok := g.element(); ok {
			return array + " = " + g.expression(typing, 3) + "; "
		}
	case 10, 11, 12:
		return g.choice(left)
	case 13, 14:
		return g.loop(left)
	case 15, 16:
		return g.count(left)
	case 17, 18:
		if len(g.labels) > 0 {
			word := []string{"break", "continue"}[g.Intn(2)]
			if label := g.labels[g.Intn(len(g.labels))]; label != "" {
				word += " " + label
			}
			return g.perhaps(word + "; ")
		}
	case 19:
		return g.perhaps(g.comeBack())
	case 20, 21:
		if name, ok := g.seen("int"); ok {
			return "read " + name + "; "
		}
	case 22:
		if array, typing, ok := g.element(); ok && typing == "int" {
			return "read " + array + "; "
		}
	case 23, 24:
		return g.call(g.funcs[g.Intn(len(g.funcs))], 2) + "; "
	case 25:
		if left > 0 {
			return g.block(left) + " "
		}
	case 26, 27:
		return g.hook()
	}
	return g.print()
}

// perhaps is a jump, mostly behind a condition.
func (g *grower) perhaps(jump string) string {
	if g.Intn(4) == 0 {
		return jump
	}
	return "if " + g.expression("bool", 2) + " { " + jump + "} "
}

func (g *grower) print() string {
	var values []string
	for range 1 + g.Intn(3) {
		values = append(values, g.expression([]string{"int", "bool", "text"}[g.Intn(3)], 3))
	}
	return "print " + strings.Join(values, ", ") + "; "
}

func (g *grower) hook() string {
	if !g.hooks {
		return ""
	}
	if name, ok := g.seen(g.typing()); ok {
		return "@" + strconv.Itoa(1+g.Intn(99)) + " " + name + "; "
	}
	return "@" + strconv.Itoa(1+g.Intn(99)) + "; "
}

func (g *grower) choice(left int) string {
	text := "if " + g.expression("bool", 3) + " " + g.block(left)
	switch g.Intn(3) {
	case 0:
		text += " else " + g.block(left)
	case 1:
		text += " else " + g.choice(left-1)
	}
	return text + " "
}

// label is a loop's, and how the loop begins with it; half of them have none.
func (g *grower) label() (string, string) {
	if g.Intn(2) == 0 {
		return "", ""
	}
	label := "l" + strconv.Itoa(len(g.labels))
	return label, label + ": "
}

func (g *grower) looped(label string, own, left int) string {
	g.labels = append(g.labels, label)
	text := "{ " + g.within(own, left) + "}"
	g.labels = g.labels[:len(g.labels)-1]
	return text
}

func (g *grower) loop(left int) string {
	label, head := g.label()
	own := len(g.vars)
	text := head + "while " + g.expression("bool", 2) + " " + g.looped(label, own, left) + " "
	g.vars = g.vars[:own]
	return text
}

func (g *grower) count(left int) string {
	label, head := g.label()
	from, to := g.expression("int", 1), g.expression("int", 1)
	if g.Intn(8) == 0 {
		from, to = "9223372036854775806", "9223372036854775807"
	}
	own := len(g.vars)
	name := g.hide(own, "int")
	text := head + "for " + name + " = " + from + " to " + to + " " + g.looped(label, own, left) + " "
	g.vars = g.vars[:own]
	return text
}

func (g *grower) comeBack() string {
	text := "return"
	if g.hooks && g.Intn(2) == 0 {
		text += " @" + strconv.Itoa(1+g.Intn(99))
	}
	if g.result != "" {
		text += " " + g.expression(g.result, 3)
	}
	return text + "; "
}

func (g *grower) returning(left int) string {
	if left > 0 && g.Intn(2) == 0 {
		return "if " + g.expression("bool", 2) + " { " + g.returning(left-1) + "} else { " + g.returning(left-1) + "} "
	}
	return g.comeBack()
}

// element is a place in an array that is seen, and its type.
func (g *grower) element() (string, string, bool) {
	array := []string{"[int]", "[int]", "[text]", "[[int]]", "[bool]"}[g.Intn(5)]
	name, ok := g.seen(array)
	if !ok {
		return "", "", false
	}
	typing := array[1 : len(array)-1]
	place := name + g.index(1)
	if typing == "[int]" && g.Intn(3) == 0 {
		return place + g.index(1), "int", true
	}
	return place, typing, true
}

func (g *grower) call(f signature, left int) string {
	var arguments []string
	for _, typing := range f.params {
		arguments = append(arguments, g.expression(typing, left-1))
	}
	return f.name + "(" + strings.Join(arguments, ", ") + ")"
}

func (g *grower) expression(typing string, left int) string {
	if name, ok := g.seen(typing); ok && g.Intn(3) == 0 {
		return name
	}
	if left > 0 && g.Intn(6) == 0 {
		for _, f := range g.funcs {
			if f.result == typing && g.Intn(2) == 0 {
				return g.call(f, left)
			}
		}
	}
	if left > 0 && g.Intn(5) == 0 {
		if name, ok := g.seen("[" + typing + "]"); ok {
			return name + g.index(left-1)
		}
	}
	switch typing {
	case "int":
		return g.number(left)
	case "bool":
		return g.truth(left)
	case "text":
		return g.text(left)
	}
	elements := "new " + typing[1:len(typing)-1]
	if g.Intn(8) > 0 {
		return elements + []string{"[3]", "[4]"}[g.Intn(2)]
	}
	return elements + "[" + g.expression("int", left-1) + "]"
}

// index is mostly one of those that most arrays have.
func (g *grower) index(left int) string {
	if g.Intn(12) > 0 {
		return []string{"[0]", "[1]", "[2]"}[g.Intn(3)]
	}
	return "[" + g.expression("int", left) + "]"
}

func (g *grower) number(left int) string {
	if left <= 0 || g.Intn(3) == 0 {
		if g.Intn(40) == 0 {
			return "9223372036854775807"
		}
		return strconv.Itoa(g.Intn(6))
	}
	switch g.Intn(10) {
	case 0:
		return "-" + g.expression("int", 0)
	case 1:
		return "len(" + g.expression([]string{"[int]", "text", "[[int]]"}[g.Intn(3)], left-1) + ")"
	case 2:
		return "(" + g.expression("text", left-1) + " + \"abc\")" + g.index(left-1)
	case 3:
		return "(" + g.expression("int", left-1) + []string{" / ", " % "}[g.Intn(2)] + strconv.Itoa(1+g.Intn(5)) + ")"
	}
	op := []string{" + ", " + ", " - ", " - ", " * ", " * ", " / ", " % "}[g.Intn(8)]
	return "(" + g.expression("int", left-1) + op + g.expression("int", left-1) + ")"
}

func (g *grower) truth(left int) string {
	if left <= 0 || g.Intn(5) == 0 {
		return []string{"true", "false"}[g.Intn(2)]
	}
	switch g.Intn(5) {
	case 0:
		return "!" + g.expression("bool", 0)
	case 1, 2:
		op := []string{" && ", " || "}[g.Intn(2)]
		return "(" + g.expression("bool", left-1) + op + g.expression("bool", left-1) + ")"
	}
	op := []string{" == ", " != ", " < ", " <= ", " > ", " >= "}[g.Intn(6)]
	typing := []string{"int", "text"}[g.Intn(2)]
	if op == " == " || op == " != " {
		typing = g.typing()
	}
	return "(" + g.expression(typing, left-1) + op + g.expression(typing, left-1) + ")"
}

func (g *grower) text(left int) string {
	if left <= 0 || g.Intn(3) == 0 {
		return []string{`""`, `"a"`, `"ab"`, `"\x00\xff"`, `"` + strings.Repeat("long", 40) + `"`}[g.Intn(5)]
	}
	if g.Intn(2) == 0 {
		return "str(" + g.expression([]string{"int", "bool", "text"}[g.Intn(3)], left-1) + ")"
	}
	return "(" + g.expression("text", left-1) + " + " + g.expression("text", left-1) + ")"
}

// grown is a program with its input and its limits.
type grown struct {
	text    string
	program api.Program
	input   []int64
	limits  api.Limits
}

// grow makes a program of a seed, with hooks in it if the seed is odd.
func grow(t *testing.T, seed int64) grown {
	t.Helper()
	g := &grower{Rand: rand.New(rand.NewSource(seed)), hooks: seed%2 == 1}
	text := g.source()
	read, problem := parse.Program(text)
	if problem.Code != api.OK {
		t.Fatalf("%q is refused: %v", text, problem)
	}
	p, problem := flow.Tree(read)
	if problem.Code != api.OK {
		t.Fatalf("%q is refused: %v, at %q", text, problem, text[problem.At:])
	}
	input := make([]int64, g.Intn(4)*g.Intn(20))
	for i := range input {
		input[i] = int64(g.Intn(7) - 2)
	}
	l := api.Limits{Depth: 1 + g.Intn(9), Cells: 1000}
	if g.Intn(3) == 0 {
		l.Cells = g.Intn(60)
	}
	return grown{text, p, input, l}
}

// seeds tells how many programs are grown.
func seeds(all int64) int64 {
	if testing.Short() {
		return all / 10
	}
	return all
}

func newRand(seed int64) *rand.Rand { return rand.New(rand.NewSource(seed)) }
