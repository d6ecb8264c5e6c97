package pretty

import (
	"math/rand"
	"strconv"
	"strings"

	"retrace/api"
	"retrace/lex"
)

// knot is a node with its kids.
type knot struct {
	api.Node
	kids []*knot
}

func tie(node api.Node, kids ...*knot) *knot {
	return &knot{node, kids}
}

// tree lays a knot and those below it out as a list.
func (k *knot) tree() api.Tree {
	return api.Tree{Nodes: k.appendTo(nil)}
}

func (k *knot) appendTo(nodes []api.Node) []api.Node {
	n := len(nodes)
	nodes = append(nodes, k.Node)
	for _, kid := range k.kids {
		nodes = kid.appendTo(nodes)
	}
	nodes[n].Size = len(nodes) - n
	return nodes
}

func knotOf(nodes []api.Node) *knot {
	k := &knot{Node: nodes[0]}
	for n := 1; n < len(nodes); n += nodes[n].Size {
		k.kids = append(k.kids, knotOf(nodes[n:n+nodes[n].Size]))
	}
	return k
}

func (k *knot) isExpr() bool {
	return k.Kind >= api.KInt && k.Kind <= api.KStr
}

// teller tells what the chapter says, word by word; of ten expressions it puts so many into brackets that they do not need (and in such brackets as many again).
type teller struct {
	*rand.Rand
	more int
}

var chapter = teller{}

func (c teller) expr(k *knot, asks int) string {
	if level(k) < asks || c.more > 0 && c.Intn(10) < c.more {
		return "(" + c.expr(k, 1) + ")"
	}
	switch k.Kind {
	case api.KInt:
		return strconv.FormatInt(k.Int, 10)
	case api.KBool:
		return []string{"false", "true"}[k.Int]
	case api.KText:
		return lex.Quote(k.Text)
	case api.KName:
		return k.Name
	case api.KIndex:
		return c.expr(k.kids[0], 7) + "[" + c.expr(k.kids[1], 1) + "]"
	case api.KCall:
		return c.call(k)
	case api.KUnary:
		return []string{"", "-", "!"}[k.Op] + c.expr(k.kids[0], 6)
	case api.KNew:
		return "new " + k.Type + "[" + c.expr(k.kids[0], 1) + "]"
	case api.KLen:
		return "len(" + c.expr(k.kids[0], 1) + ")"
	case api.KStr:
		return "str(" + c.expr(k.kids[0], 1) + ")"
	}
	left := level(k)
	if left == 3 {
		left = 4
	}
	sign := strings.Fields("+ - * / % == != < <= > >= && ||")[k.Op-api.OpAdd]
	return c.expr(k.kids[0], left) + " " + sign + " " + c.expr(k.kids[1], level(k)+1)
}

func level(k *knot) int {
	switch k.Kind {
	case api.KIndex:
		return 7
	case api.KUnary:
		return 6
	case api.KBinary:
		return map[api.Op]int{
			api.OpOr: 1, api.OpAnd: 2,
			api.OpEq: 3, api.OpNe: 3, api.OpLt: 3, api.OpLe: 3, api.OpGt: 3, api.OpGe: 3,
			api.OpAdd: 4, api.OpSub: 4, api.OpMul: 5, api.OpDiv: 5, api.OpMod: 5,
		}[k.Op]
	}
	return 8
}

func (c teller) call(k *knot) string {
	return k.Name + "(" + c.list(k.kids) + ")"
}

func (c teller) list(kids []*knot) string {
	var texts []string
	for _, kid := range kids {
		texts = append(texts, c.expr(kid, 1))
	}
	return strings.Join(texts, ", ")
}

// place is an expression in which only the indexes may have brackets around them.
func (c teller) place(k *knot) string {
	if k.Kind == api.KName {
		return k.Name
	}
	return c.place(k.kids[0]) + "[" + c.expr(k.kids[1], 1) + "]"
}

func (c teller) program(k *knot) string {
	var functions []string
	for _, f := range k.kids {
		var params []string
		for _, p := range f.kids[:len(f.kids)-1] {
			params = append(params, p.Name+": "+p.Type)
		}
		head := "fn " + f.Name + "(" + strings.Join(params, ", ") + ")"
		if f.Type != "" {
			head += ": " + f.Type
		}
		functions = append(functions, strings.Join(c.block(head+" ", f.kids[len(f.kids)-1]), "\n")+"\n")
	}
	return strings.Join(functions, "\n")
}

// block is the lines of a block with a head; each that stands in it has four blanks ahead.
func (c teller) block(head string, k *knot) []string {
	lines := []string{head + "{"}
	for _, kid := range k.kids {
		for _, line := range c.lines(kid) {
			lines = append(lines, "    "+line)
		}
	}
	return append(lines, "}")
}

func (c teller) lines(k *knot) []string {
	label := ""
	if k.Label != "" && (k.Kind == api.KWhile || k.Kind == api.KFor) {
		label = k.Label + ": "
	}
	switch k.Kind {
	case api.KBlock:
		return c.block("", k)
	case api.KIf:
		lines := c.block("if "+c.expr(k.kids[0], 1)+" ", k.kids[1])
		if len(k.kids) == 2 {
			return lines
		}
		others := c.lines(k.kids[2])
		lines[len(lines)-1] = "} else " + others[0]
		return append(lines, others[1:]...)
	case api.KWhile:
		return c.block(label+"while "+c.expr(k.kids[0], 1)+" ", k.kids[1])
	case api.KFor:
		return c.block(label+"for "+k.Name+" = "+c.expr(k.kids[0], 1)+" to "+c.expr(k.kids[1], 1)+" ", k.kids[2])
	}
	return []string{c.simple(k) + ";"}
}

func (c teller) simple(k *knot) string {
	switch k.Kind {
	case api.KVar:
		return "var " + k.Name + ": " + k.Type + " = " + c.expr(k.kids[0], 1)
	case api.KAssign:
		return c.place(k.kids[0]) + " = " + c.expr(k.kids[1], 1)
	case api.KBreak:
		return strings.TrimSuffix("break "+k.Label, " ")
	case api.KContinue:
		return strings.TrimSuffix("continue "+k.Label, " ")
	case api.KReturn:
		text := "return"
		if k.Int != 0 {
			text += " @" + strconv.FormatInt(k.Int, 10)
		}
		if len(k.kids) > 0 {
			text += " " + c.expr(k.kids[0], 1)
		}
		return text
	case api.KPrint:
		return "print " + c.list(k.kids)
	case api.KRead:
		return "read " + c.place(k.kids[0])
	case api.KDo:
		return c.call(k.kids[0])
	}
	return strings.TrimSuffix("@"+strconv.FormatInt(k.Int, 10)+" "+k.Name, " ")
}

// grower makes trees of every kind.
type grower struct {
	*rand.Rand
}

func (g grower) name() string {
	return []string{"x", "y", "a1", "B_", "fnn", "main", "abcdefghijklmnopqrstuvwx"}[g.Intn(7)]
}

func (g grower) maybeName() string {
	if g.Intn(2) == 0 {
		return ""
	}
	return g.name()
}

func (g grower) typing() string {
	n := g.Intn(api.MaxArray + 1)
	return strings.Repeat("[", n) + []string{"int", "bool", "text"}[g.Intn(3)] + strings.Repeat("]", n)
}

func (g grower) program() *knot {
	var funcs []*knot
	for range g.Intn(4) {
		node := api.Node{Kind: api.KFunc, Name: g.name()}
		if g.Intn(2) == 0 {
			node.Type = g.typing()
		}
		var kids []*knot
		for range g.Intn(api.MaxParams + 1) {
			kids = append(kids, tie(api.Node{Kind: api.KParam, Name: g.name(), Type: g.typing()}))
		}
		funcs = append(funcs, tie(node, append(kids, g.block(4))...))
	}
	return tie(api.Node{Kind: api.KProgram}, funcs...)
}

func (g grower) block(left int) *knot {
	var stmts []*knot
	if left > 0 {
		for range g.Intn(4) {
			stmts = append(stmts, g.statement(left-1))
		}
	}
	return tie(api.Node{Kind: api.KBlock}, stmts...)
}

func (g grower) statement(left int) *knot {
	e := func() *knot { return g.expr(3) }
	switch g.Intn(13) {
	case 0:
		return tie(api.Node{Kind: api.KVar, Name: g.name(), Type: g.typing()}, e())
	case 1:
		return tie(api.Node{Kind: api.KAssign}, g.place(), e())
	case 2:
		return g.choice(left, g.Intn(4))
	case 3:
		return tie(api.Node{Kind: api.KWhile, Label: g.maybeName()}, e(), g.block(left))
	case 4:
		return tie(api.Node{Kind: api.KFor, Label: g.maybeName(), Name: g.name()}, e(), e(), g.block(left))
	case 5:
		return tie(api.Node{Kind: api.KBreak, Label: g.maybeName()})
	case 6:
		return tie(api.Node{Kind: api.KContinue, Label: g.maybeName()})
	case 7:
		node := api.Node{Kind: api.KReturn, Int: []int64{0, 0, 1, 7, api.MaxTree}[g.Intn(5)]}
		if g.Intn(2) == 0 {
			return tie(node)
		}
		return tie(node, e())
	case 8:
		values := []*knot{e()}
		for range g.Intn(api.MaxPrints) {
			values = append(values, g.expr(1))
		}
		return tie(api.Node{Kind: api.KPrint}, values...)
	case 9:
		return tie(api.Node{Kind: api.KRead}, g.place())
	case 10:
		return tie(api.Node{Kind: api.KDo}, g.call(2))
	case 11:
		return tie(api.Node{Kind: api.KHook, Int: []int64{1, 2, api.MaxTree}[g.Intn(3)], Name: g.maybeName()})
	}
	return g.block(left)
}

func (g grower) choice(left, more int) *knot {
	kids := []*knot{g.expr(2), g.block(left)}
	switch {
	case more > 0:
		kids = append(kids, g.choice(left, more-1))
	case g.Intn(2) == 0:
		kids = append(kids, g.block(left))
	}
	return tie(api.Node{Kind: api.KIf}, kids...)
}

func (g grower) place() *knot {
	p := tie(api.Node{Kind: api.KName, Name: g.name()})
	for range g.Intn(3) {
		p = tie(api.Node{Kind: api.KIndex}, p, g.expr(2))
	}
	return p
}

func (g grower) call(left int) *knot {
	var args []*knot
	for range g.Intn(4) {
		args = append(args, g.expr(left))
	}
	return tie(api.Node{Kind: api.KCall, Name: g.name()}, args...)
}

func (g grower) leaf() *knot {
	switch g.Intn(5) {
	case 0:
		return tie(api.Node{Kind: api.KInt, Int: []int64{0, 1, 42, 40001, 9223372036854775807}[g.Intn(5)]})
	case 1:
		return tie(api.Node{Kind: api.KBool, Int: int64(g.Intn(2))})
	case 2:
		return tie(api.Node{Kind: api.KText, Text: []string{"", "(", ";", "fn", "\"\\\n\x00é", strings.Repeat("\xff", api.MaxLiteral)}[g.Intn(6)]})
	}
	return tie(api.Node{Kind: api.KName, Name: g.name()})
}

func (g grower) expr(left int) *knot {
	if left == 0 || g.Intn(6) == 0 {
		return g.leaf()
	}
	switch g.Intn(9) {
	case 0:
		return g.call(left - 1)
	case 1:
		return tie(api.Node{Kind: api.KNew, Type: g.typing()}, g.expr(left-1))
	case 2:
		return tie(api.Node{Kind: api.KLen}, g.expr(left-1))
	case 3:
		return tie(api.Node{Kind: api.KStr}, g.expr(left-1))
	case 4:
		return tie(api.Node{Kind: api.KIndex}, g.expr(left-1), g.expr(left-1))
	case 5:
		return tie(api.Node{Kind: api.KUnary, Op: api.Op(1 + g.Intn(2))}, g.expr(left-1))
	}
	return tie(api.Node{Kind: api.KBinary, Op: api.Op(3 + g.Intn(13))}, g.expr(left-1), g.expr(left-1))
}

// wrap puts one more expression around an expression, at any place in it.
func (g grower) wrap(e *knot) *knot {
	switch g.Intn(7) {
	case 0:
		return tie(api.Node{Kind: api.KUnary, Op: api.Op(1 + g.Intn(2))}, e)
	case 1:
		return tie(api.Node{Kind: api.KBinary, Op: api.Op(3 + g.Intn(13))}, e, g.leaf())
	case 2:
		return tie(api.Node{Kind: api.KBinary, Op: api.Op(3 + g.Intn(13))}, g.leaf(), e)
	case 3:
		return tie(api.Node{Kind: api.KIndex}, e, g.leaf())
	case 4:
		return tie(api.Node{Kind: api.KIndex}, g.leaf(), e)
	case 5:
		return tie(api.Node{Kind: api.KCall, Name: g.name()}, g.leaf(), e)
	}
	return tie(api.Node{Kind: api.KStr}, e)
}

// mess lays a source's tokens out anew, with any gaps between them.
func mess(r *rand.Rand, text string) string {
	tokens, _ := lex.Scan(text)
	var b strings.Builder
	for i, token := range tokens {
		gap := r.Intn(3)
		if i > 0 && gap == 0 {
			gap = 1
		}
		// A gap of no bytes where the source has none between two tokens: it may stay so.
		if i > 0 && tokens[i-1].End == token.At && r.Intn(2) == 0 {
			gap = 0
		}
		for range gap {
			b.WriteString([]string{" ", "\t", "\r\n", "\n", "# no ) \xff {\n", "#\n"}[r.Intn(6)])
		}
		b.WriteString(text[token.At:token.End])
	}
	return b.String()
}
