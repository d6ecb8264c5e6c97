package cond

import (
	"math"
	"math/rand"
	"strconv"
	"strings"

	"retrace/api"
	"retrace/lex"
)

// term is an expression as it was grown.
type term struct {
	kind  api.Kind
	word  string    // the name, or the operator as it stands in a source
	value api.Value // of a literal
	kids  []*term
}

// operators are those of two operands, with how tightly they bind.
func operators() map[string]int {
	return map[string]int{"||": 1, "&&": 2, "==": 3, "!=": 3, "<": 3, "<=": 3, ">": 3, ">=": 3, "+": 4, "-": 4, "*": 5, "/": 5, "%": 5}
}

const (
	unaryTight = 6
	postTight  = 7
)

func (e *term) tight() int {
	switch e.kind {
	case api.KBinary:
		return operators()[e.word]
	case api.KUnary:
		return unaryTight
	}
	return postTight
}

// grower makes expressions, and what they are worked out over. Of a thousand parts so many are not what they should be.
type grower struct {
	*rand.Rand
	wild   int
	vars   []api.Shown
	arrays [][]api.Value
	names  int
}

func newGrower(seed int, wild int) *grower {
	return &grower{Rand: rand.New(rand.NewSource(int64(seed))), wild: wild}
}

func (g *grower) isWild() bool {
	return g.Intn(1000) < g.wild
}

func pick[T any](g *grower, list ...T) T {
	return list[g.Intn(len(list))]
}

func (g *grower) plain() string {
	return pick(g, "int", "int", "bool", "text")
}

func (g *grower) typing() string {
	pairs := pick(g, 0, 0, 0, 0, 1, 1, 2, 3, 4)
	return strings.Repeat("[", pairs) + g.plain() + strings.Repeat("]", pairs)
}

func (g *grower) number() int64 {
	switch g.Intn(6) {
	case 0:
		return pick[int64](g, math.MinInt64, math.MaxInt64, math.MinInt64+1, 1<<32, -1<<32, 255, 256)
	case 1:
		return int64(g.Uint64()) >> g.Intn(64)
	}
	return int64(g.Intn(7)) - 2
}

func (g *grower) bytes(most int) string {
	text := make([]byte, g.Intn(most+1))
	for n := range text {
		text[n] = "ab\x00\xff\"\\\n~ #"[g.Intn(10)]
	}
	return string(text)
}

// value is one that fits a type; arrays are made for it, or found.
func (g *grower) value(typing string) api.Value {
	if g.isWild() {
		return g.anything()
	}
	switch typing {
	case "int":
		return i(g.number())
	case "bool":
		return b(int64(g.Intn(2)))
	case "text":
		return x(g.bytes(pick(g, 2, 5, 200, 256)))
	}
	return g.array(typing[1 : len(typing)-1])
}

func (g *grower) array(elements string) api.Value {
	if len(g.arrays) == 0 {
		g.arrays = append(g.arrays, nil)
	}
	if g.Intn(5) == 0 {
		return r(0)
	}
	place := len(g.arrays)
	g.arrays = append(g.arrays, nil)
	list := make([]api.Value, pick(g, 0, 1, 2, 3, 3, 20))
	for n := range list {
		if n > 0 && g.Intn(3) == 0 {
			list[n] = list[n-1]
			continue
		}
		if len(g.arrays) > 60 && strings.HasPrefix(elements, "[") {
			list[n] = r(0)
			continue
		}
		list[n] = g.value(elements)
	}
	g.arrays[place] = list
	return r(int64(place))
}

// anything is a value that may be or may not.
func (g *grower) anything() api.Value {
	if g.Intn(2) == 0 {
		return pick(g, i(1), b(1), x("q"), r(0), r(1), r(int64(len(g.arrays))), r(int64(len(g.arrays))-1), r(math.MaxInt64), r(-1), api.Value{}, b(2), x(strings.Repeat("z", 257)))
	}
	return api.Value{Kind: api.ValueKind(g.Intn(7) - 1), Int: int64(g.Intn(5) - 1), Text: pick(g, "", "", "", "q")}
}

// name is that of a variable of a type: one that is there, or a new one. What it is at last is what the last one of its name is.
func (g *grower) name(typing string) string {
	var fit []string
	for n, one := range g.vars {
		if one.Var.Type == typing && g.last(one.Var.Name) == n {
			fit = append(fit, one.Var.Name)
		}
	}
	if len(fit) > 0 && g.Intn(4) > 0 {
		return pick(g, fit...)
	}
	g.names++
	name := "v" + strconv.Itoa(g.names)
	if g.isWild() {
		// The last one of a name is another one.
		g.vars = append(g.vars, v(name, g.typing(), g.anything()))
	}
	g.vars = append(g.vars, v(name, typing, g.value(typing)))
	return name
}

func (g *grower) last(name string) int {
	last := -1
	for n, one := range g.vars {
		if one.Var.Name == name {
			last = n
		}
	}
	return last
}

func leaf(value api.Value) *term {
	kinds := map[api.ValueKind]api.Kind{api.ValInt: api.KInt, api.ValBool: api.KBool, api.ValText: api.KText}
	return &term{kind: kinds[value.Kind], value: value}
}

func named(name string) *term {
	return &term{kind: api.KName, word: name}
}

func over(kind api.Kind, word string, kids ...*term) *term {
	return &term{kind: kind, word: word, kids: kids}
}

// term grows an expression of a type, so many operators deep.
func (g *grower) term(typing string, left int) *term {
	if strings.HasPrefix(typing, "[") {
		if left > 0 && strings.Count(typing, "[") < api.MaxArray && g.Intn(2) == 0 {
			return g.element(typing, left-1)
		}
		return named(g.name(typing))
	}
	if left <= 0 || g.Intn(12) == 0 {
		if g.Intn(3) > 0 {
			return named(g.name(typing))
		}
		return g.literal(typing)
	}
	if g.Intn(5) == 0 {
		return g.element(typing, left-1)
	}
	switch typing {
	case "int":
		return g.ofInts(left - 1)
	case "bool":
		return g.ofBools(left - 1)
	}
	return g.ofTexts(left - 1)
}

func (g *grower) literal(typing string) *term {
	switch typing {
	case "int":
		return leaf(i(max(g.number(), 0)))
	case "bool":
		return leaf(b(int64(g.Intn(2))))
	}
	return leaf(x(g.bytes(pick(g, 2, 200))))
}

// element is that of an array, at an index that is often within it.
func (g *grower) element(typing string, left int) *term {
	index := leaf(i(int64(g.Intn(3))))
	if g.Intn(4) == 0 {
		index = g.term("int", left)
	}
	return over(api.KIndex, "", g.term("["+typing+"]", left), index)
}

func (g *grower) ofInts(left int) *term {
	switch g.Intn(8) {
	case 0:
		return over(api.KUnary, "-", g.term("int", left))
	case 1:
		return over(api.KLen, "len", g.term(pick(g, "text", "[int]", "[[bool]]", "[text]"), left))
	case 2:
		return over(api.KIndex, "", g.term("text", left), g.term("int", left))
	}
	return over(api.KBinary, pick(g, "+", "-", "*", "/", "%"), g.term("int", left), g.term("int", left))
}

func (g *grower) ofBools(left int) *term {
	switch g.Intn(8) {
	case 0:
		return over(api.KUnary, "!", g.term("bool", left))
	case 1, 2:
		typing := pick(g, "int", "text")
		return over(api.KBinary, pick(g, "<", "<=", ">", ">="), g.term(typing, left), g.term(typing, left))
	case 3, 4:
		typing := g.typing()
		return over(api.KBinary, pick(g, "==", "!="), g.term(typing, left), g.term(typing, left))
	}
	return over(api.KBinary, pick(g, "&&", "||"), g.term("bool", left), g.term("bool", left))
}

func (g *grower) ofTexts(left int) *term {
	if g.Intn(2) == 0 {
		return over(api.KStr, "str", g.term(g.plain(), left))
	}
	return over(api.KBinary, "+", g.term("text", left), g.term("text", left))
}

// gap is what may stand between two tokens.
func (g *grower) gap() string {
	return pick(g, "", "", "", " ", " ", "\t", "\n", "# x\n", "\r\n ")
}

// source is the text of a term, with the brackets that it needs and some more.
func (g *grower) source(e *term, need int) string {
	text := ""
	switch e.kind {
	case api.KInt:
		text = strconv.FormatInt(e.value.Int, 10)
	case api.KBool:
		text = strconv.FormatBool(e.value.Int == 1)
	case api.KText:
		text = lex.Quote(e.value.Text)
	case api.KName:
		text = e.word
	case api.KIndex:
		text = g.source(e.kids[0], postTight) + g.gap() + "[" + g.source(e.kids[1], 0) + "]"
	case api.KUnary:
		text = e.word + g.gap() + g.source(e.kids[0], unaryTight)
	case api.KLen, api.KStr:
		text = e.word + g.gap() + "(" + g.source(e.kids[0], 0) + g.gap() + ")"
	case api.KBinary:
		own := e.tight()
		first := own
		if own == operators()["=="] {
			first++
		}
		text = g.source(e.kids[0], first) + g.gap() + e.word + g.gap() + g.source(e.kids[1], own+1)
	}
	if e.tight() < need || g.Intn(10) == 0 {
		text = "(" + g.gap() + text + g.gap() + ")"
	}
	return text
}
