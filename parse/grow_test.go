package parse

import (
	"math/rand"
	"slices"
	"strconv"
	"strings"

	"retrace/api"
	"retrace/lex"
)

// knot is a node with its kids and the one that it is a kid of.
type knot struct {
	api.Node
	kids []*knot
	up   *knot
}

func tie(node api.Node, kids ...*knot) *knot {
	k := &knot{Node: node, kids: kids}
	for _, kid := range kids {
		kid.up = k
	}
	return k
}

// inOrder gives a knot and those below it in the order of a tree, their Sizes set.
func (k *knot) inOrder() []*knot {
	all := []*knot{k}
	for _, kid := range k.kids {
		all = append(all, kid.inOrder()...)
	}
	k.Size = len(all)
	return all
}

func nodesOf(all []*knot) []api.Node {
	nodes := make([]api.Node, len(all))
	for i, k := range all {
		nodes[i] = k.Node
	}
	return nodes
}

func (k *knot) isExpr() bool {
	return k.Kind >= api.KInt && k.Kind <= api.KStr
}

// depth is how deep an expression or a block is, in the chapter's words.
func (k *knot) depth() int {
	count := 0
	for at := k; at != nil; at = at.up {
		switch {
		case k.isExpr():
			if !at.isExpr() {
				return count
			}
			count++
		case at.Kind == api.KBlock:
			count++
		case at.Kind == api.KIf && at.up != nil && at.up.Kind == api.KIf:
			count++
		}
	}
	return count
}

// firstExcess is what 4. of P4.1 tells of a tree.
func firstExcess(all []*knot) api.Problem {
	for number, k := range all {
		params := 0
		for _, kid := range k.kids {
			if kid.Kind == api.KParam {
				params++
			}
		}
		switch {
		case k.Kind == api.KFunc && params > 8,
			k.Kind == api.KPrint && len(k.kids) > 16,
			number >= 40000:
			return api.Problem{Code: api.ErrSize, At: k.At}
		case strings.Count(k.Type, "[") > 4,
			(k.isExpr() || k.Kind == api.KBlock) && k.depth() > 40:
			return api.Problem{Code: api.ErrDeep, At: k.At}
		}
	}
	return api.Problem{}
}

// firstOpen is what 2. of P4.1 tells of a text.
func firstOpen(text string) api.Problem {
	tokens, _ := lex.Scan(text)
	open := []string{}
	for _, token := range tokens {
		if token.Kind != api.TokSign {
			continue
		}
		if slices.Contains([]string{"(", "[", "{"}, token.Text) {
			if len(open) >= 200 {
				return api.Problem{Code: api.ErrDeep, At: token.At}
			}
			open = append(open, token.Text)
		}
		if slices.Contains([]string{")", "]", "}"}, token.Text) && len(open) > 0 {
			open = open[1:]
		}
	}
	return api.Problem{}
}

// grower makes trees by the grammar; reach is how near to the limits, and beyond them, it goes: 0 not at all.
type grower struct {
	*rand.Rand
	reach int
}

func (g *grower) name() string {
	return []string{"x", "y", "a1", "B_", "fnn", "main", "abcdefghijklmnopqrstuvwx"}[g.Intn(7)]
}

func (g *grower) maybeName() string {
	if g.Intn(2) == 0 {
		return ""
	}
	return g.name()
}

// stretch is how long a chain is: mostly short, and about the limit where the grower may reach it.
func (g *grower) stretch(short, limit int) int {
	if g.Intn(100) < g.reach {
		return limit - 2 + g.Intn(5)
	}
	return g.Intn(short + 1)
}

func (g *grower) typing() string {
	n := g.stretch(2, 4)
	return strings.Repeat("[", n) + []string{"int", "bool", "text"}[g.Intn(3)] + strings.Repeat("]", n)
}

func (g *grower) program() *knot {
	var funcs []*knot
	for range g.Intn(4) {
		node := api.Node{Kind: api.KFunc, Name: g.name()}
		if g.Intn(2) == 0 {
			node.Type = g.typing()
		}
		var kids []*knot
		for range g.stretch(3, 8) {
			kids = append(kids, tie(api.Node{Kind: api.KParam, Name: g.name(), Type: g.typing()}))
		}
		funcs = append(funcs, tie(node, append(kids, g.block(3))...))
	}
	return tie(api.Node{Kind: api.KProgram}, funcs...)
}

func (g *grower) block(left int) *knot {
	var stmts []*knot
	if left > 0 {
		for range g.Intn(4) {
			stmts = append(stmts, g.statement(left-1))
		}
	}
	b := tie(api.Node{Kind: api.KBlock}, stmts...)
	if g.Intn(300) < g.reach {
		for range g.stretch(3, 38) {
			b = tie(api.Node{Kind: api.KBlock}, b)
		}
	}
	return b
}

func (g *grower) statement(left int) *knot {
	e := func() *knot { return g.expr(3) }
	switch g.Intn(13) {
	case 0:
		return tie(api.Node{Kind: api.KVar, Name: g.name(), Type: g.typing()}, e())
	case 1:
		return tie(api.Node{Kind: api.KAssign}, g.place(), e())
	case 2:
		return g.choice(left, g.stretch(3, 38))
	case 3:
		return tie(api.Node{Kind: api.KWhile, Label: g.maybeName()}, e(), g.block(left))
	case 4:
		return tie(api.Node{Kind: api.KFor, Label: g.maybeName(), Name: g.name()}, e(), e(), g.block(left))
	case 5:
		return tie(api.Node{Kind: api.KBreak, Label: g.maybeName()})
	case 6:
		return tie(api.Node{Kind: api.KContinue, Label: g.maybeName()})
	case 7:
		node := api.Node{Kind: api.KReturn, Int: []int64{0, 0, 1, 7, 40000}[g.Intn(5)]}
		if g.Intn(2) == 0 {
			return tie(node)
		}
		return tie(node, e())
	case 8:
		var values []*knot
		for range max(1, g.stretch(3, 16)) {
			values = append(values, g.expr(2))
		}
		return tie(api.Node{Kind: api.KPrint}, values...)
	case 9:
		return tie(api.Node{Kind: api.KRead}, g.place())
	case 10:
		return tie(api.Node{Kind: api.KDo}, g.call(2))
	case 11:
		return tie(api.Node{Kind: api.KHook, Int: []int64{1, 2, 40000}[g.Intn(3)], Name: g.maybeName()})
	}
	return g.block(left)
}

func (g *grower) choice(left, more int) *knot {
	kids := []*knot{g.expr(2), g.block(left)}
	switch {
	case more > 0:
		kids = append(kids, g.choice(0, more-1))
	case g.Intn(2) == 0:
		kids = append(kids, g.block(left))
	}
	return tie(api.Node{Kind: api.KIf}, kids...)
}

func (g *grower) place() *knot {
	p := tie(api.Node{Kind: api.KName, Name: g.name()})
	for range g.stretch(2, 40) {
		p = tie(api.Node{Kind: api.KIndex}, p, g.expr(1))
	}
	return p
}

func (g *grower) call(left int) *knot {
	var args []*knot
	for range g.Intn(4) {
		args = append(args, g.expr(left))
	}
	return tie(api.Node{Kind: api.KCall, Name: g.name()}, args...)
}

func (g *grower) leaf() *knot {
	switch g.Intn(5) {
	case 0:
		return tie(api.Node{Kind: api.KInt, Int: []int64{0, 1, 42, 40001, 9223372036854775807}[g.Intn(5)]})
	case 1:
		return tie(api.Node{Kind: api.KBool, Int: int64(g.Intn(2))})
	case 2:
		return tie(api.Node{Kind: api.KText, Text: []string{"", "(", ";", "fn", "\"\\\n\x00é", strings.Repeat("t", 200)}[g.Intn(6)]})
	}
	return tie(api.Node{Kind: api.KName, Name: g.name()})
}

func (g *grower) expr(left int) *knot {
	if left == 0 || g.Intn(4) == 0 {
		return g.leaf()
	}
	if g.Intn(100) < g.reach {
		e := g.expr(left - 1)
		for range 36 + g.Intn(5) {
			e = g.wrap(e)
		}
		return e
	}
	switch g.Intn(7) {
	case 0:
		return g.call(left - 1)
	case 1:
		return tie(api.Node{Kind: api.KNew, Type: g.typing()}, g.expr(left-1))
	case 2:
		return tie(api.Node{Kind: api.KLen}, g.expr(left-1))
	case 3:
		return tie(api.Node{Kind: api.KStr}, g.expr(left-1))
	case 4:
		return tie(api.Node{Kind: api.KIndex}, g.expr(left-1), g.expr(left-1))
	case 5:
		return tie(api.Node{Kind: api.KUnary, Op: api.Op(1 + g.Intn(2))}, g.expr(left-1))
	}
	return tie(api.Node{Kind: api.KBinary, Op: api.Op(3 + g.Intn(13))}, g.expr(left-1), g.expr(left-1))
}

// wrap puts one more expression around an expression, at any place in it.
func (g *grower) wrap(e *knot) *knot {
	switch g.Intn(6) {
	case 0:
		return tie(api.Node{Kind: api.KUnary, Op: api.Op(1 + g.Intn(2))}, e)
	case 1:
		return tie(api.Node{Kind: api.KBinary, Op: api.Op(3 + g.Intn(13))}, e, g.leaf())
	case 2:
		return tie(api.Node{Kind: api.KBinary, Op: api.Op(3 + g.Intn(13))}, g.leaf(), e)
	case 3:
		return tie(api.Node{Kind: api.KIndex}, e, g.leaf())
	case 4:
		return tie(api.Node{Kind: api.KCall, Name: g.name()}, g.leaf(), e)
	}
	return tie(api.Node{Kind: api.KStr}, e)
}

// writer writes a tree as a source, with any gaps and brackets that change nothing, and sets the Ats.
type writer struct {
	*rand.Rand
	text     strings.Builder
	last     string
	gaps     bool // else as few as can be
	brackets int  // of ten expressions, how many get one that they do not need
}

func isWordy(b byte) bool {
	return isLetterByte(b) || '0' <= b && b <= '9' || b == '_'
}

// put writes a token and tells its offset.
func (w *writer) put(token string) int {
	if w.last != "" {
		end := w.last[len(w.last)-1]
		touching := isWordy(end) && isWordy(token[0]) || token[0] == '=' && strings.ContainsRune("=!<>", rune(end))
		if touching {
			w.text.WriteString(" ")
		}
	}
	if w.gaps {
		for w.Intn(2) == 0 {
			w.text.WriteString([]string{" ", "\t", "\r\n", "\n", "# no ) \xff {\n", "#\n"}[w.Intn(6)])
		}
	}
	w.last = token
	at := w.text.Len()
	w.text.WriteString(token)
	return at
}

func (w *writer) puts(tokens ...string) {
	for _, token := range tokens {
		w.put(token)
	}
}

func (w *writer) typing(t string) {
	for len(t) > 0 && t[0] == '[' {
		w.put("[")
		t = t[1:]
	}
	word := strings.TrimRight(t, "]")
	w.put(word)
	for range len(t) - len(word) {
		w.put("]")
	}
}

func (w *writer) program(k *knot) {
	if len(k.kids) == 0 {
		if w.gaps {
			w.text.WriteString(" # nothing")
		}
		k.At = w.text.Len()
	}
	for i, f := range k.kids {
		f.At = w.put("fn")
		if i == 0 {
			k.At = f.At
		}
		w.puts(f.Name, "(")
		params := f.kids[:len(f.kids)-1]
		for j, p := range params {
			if j > 0 {
				w.put(",")
			}
			p.At = w.put(p.Name)
			w.put(":")
			w.typing(p.Type)
		}
		w.put(")")
		if f.Type != "" {
			w.put(":")
			w.typing(f.Type)
		}
		w.block(f.kids[len(params)])
	}
	if len(k.kids) > 0 && w.gaps {
		w.text.WriteString([]string{"", "\n", "# end"}[w.Intn(3)])
	}
}

func (w *writer) block(k *knot) {
	k.At = w.put("{")
	for _, s := range k.kids {
		w.statement(s)
	}
	w.put("}")
}

func (w *writer) statement(k *knot) {
	switch k.Kind {
	case api.KBlock:
		w.block(k)
	case api.KVar:
		k.At = w.put("var")
		w.puts(k.Name, ":")
		w.typing(k.Type)
		w.put("=")
		w.expr(k.kids[0], 1)
		w.put(";")
	case api.KAssign:
		k.At = w.place(k.kids[0])
		w.put("=")
		w.expr(k.kids[1], 1)
		w.put(";")
	case api.KIf:
		k.At = w.put("if")
		w.expr(k.kids[0], 1)
		w.block(k.kids[1])
		if len(k.kids) > 2 {
			w.put("else")
			w.statement(k.kids[2])
		}
	case api.KWhile, api.KFor:
		w.loop(k)
	case api.KBreak, api.KContinue:
		k.At = w.put(map[api.Kind]string{api.KBreak: "break", api.KContinue: "continue"}[k.Kind])
		if k.Label != "" {
			w.put(k.Label)
		}
		w.put(";")
	case api.KReturn:
		k.At = w.put("return")
		if k.Int != 0 {
			w.puts("@", strconv.FormatInt(k.Int, 10))
		}
		w.list(k.kids)
		w.put(";")
	case api.KPrint:
		k.At = w.put("print")
		w.list(k.kids)
		w.put(";")
	case api.KRead:
		k.At = w.put("read")
		w.place(k.kids[0])
		w.put(";")
	case api.KDo:
		k.At = w.core(k.kids[0])
		w.put(";")
	case api.KHook:
		k.At = w.put("@")
		w.put(strconv.FormatInt(k.Int, 10))
		if k.Name != "" {
			w.put(k.Name)
		}
		w.put(";")
	}
}

func (w *writer) loop(k *knot) {
	k.At = -1
	if k.Label != "" {
		k.At = w.put(k.Label)
		w.put(":")
	}
	word := w.put(map[api.Kind]string{api.KWhile: "while", api.KFor: "for"}[k.Kind])
	if k.At < 0 {
		k.At = word
	}
	if k.Kind == api.KFor {
		w.puts(k.Name, "=")
	}
	w.expr(k.kids[0], 1)
	if k.Kind == api.KFor {
		w.put("to")
		w.expr(k.kids[1], 1)
	}
	w.block(k.kids[len(k.kids)-1])
}

func (w *writer) list(kids []*knot) {
	for i, kid := range kids {
		if i > 0 {
			w.put(",")
		}
		w.expr(kid, 1)
	}
}

func (w *writer) place(k *knot) int {
	if k.Kind == api.KName {
		k.At = w.put(k.Name)
		return k.At
	}
	k.At = w.place(k.kids[0])
	w.put("[")
	w.expr(k.kids[1], 1)
	w.put("]")
	return k.At
}

// level is which rule of the grammar makes an expression: 1 expr, 2 and, 3 comp, 4 sum, 5 term, 6 unary, 7 post, 8 primary.
func level(k *knot) int {
	switch {
	case k.Kind == api.KIndex:
		return 7
	case k.Kind == api.KUnary:
		return 6
	case k.Kind != api.KBinary:
		return 8
	case k.Op == api.OpOr:
		return 1
	case k.Op == api.OpAnd:
		return 2
	case k.Op >= api.OpEq:
		return 3
	case k.Op <= api.OpSub:
		return 4
	}
	return 5
}

// expr writes an expression where the rule of a level is wanted, and tells the offset of its first token or of its first bracket.
func (w *writer) expr(k *knot, wanted int) int {
	if level(k) < wanted || w.Intn(10) < w.brackets {
		at := w.put("(")
		w.expr(k, 1)
		w.put(")")
		return at
	}
	return w.core(k)
}

func (w *writer) core(k *knot) int {
	switch k.Kind {
	case api.KInt:
		k.At = w.put(strconv.FormatInt(k.Int, 10))
	case api.KBool:
		k.At = w.put([]string{"false", "true"}[k.Int])
	case api.KText:
		k.At = w.put(lex.Quote(k.Text))
	case api.KName:
		k.At = w.put(k.Name)
	case api.KIndex:
		k.At = w.expr(k.kids[0], 7)
		w.put("[")
		w.expr(k.kids[1], 1)
		w.put("]")
	case api.KCall:
		k.At = w.put(k.Name)
		w.put("(")
		w.list(k.kids)
		w.put(")")
	case api.KUnary:
		k.At = w.put([]string{"", "-", "!"}[k.Op])
		w.expr(k.kids[0], 6)
	case api.KNew:
		k.At = w.put("new")
		w.typing(k.Type)
		w.put("[")
		w.expr(k.kids[0], 1)
		w.put("]")
	case api.KLen, api.KStr:
		k.At = w.put(map[api.Kind]string{api.KLen: "len", api.KStr: "str"}[k.Kind])
		w.put("(")
		w.expr(k.kids[0], 1)
		w.put(")")
	default:
		own := level(k)
		left := own
		if own == 3 {
			left = 4
		}
		k.At = w.expr(k.kids[0], left)
		w.put(strings.Fields("+ - * / % == != < <= > >= && ||")[k.Op-api.OpAdd])
		w.expr(k.kids[1], own+1)
	}
	return k.At
}
