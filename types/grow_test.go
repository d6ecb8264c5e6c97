package types

import (
	"math/rand"
	"slices"
	"strconv"

	"retrace/api"
)

// knot is a node with its kids.
type knot struct {
	api.Node
	kids []*knot
}

func tie(node api.Node, kids ...*knot) *knot {
	return &knot{node, kids}
}

// tree lays a knot and those below it out as a list, with an At of its own for each node.
func (k *knot) tree() api.Tree {
	nodes := k.appendTo(nil)
	for n := range nodes {
		nodes[n].At = 1000 + 3*n
	}
	return api.Tree{Nodes: nodes}
}

func (k *knot) appendTo(nodes []api.Node) []api.Node {
	n := len(nodes)
	nodes = append(nodes, k.Node)
	for _, kid := range k.kids {
		nodes = kid.appendTo(nodes)
	}
	nodes[n].Size = len(nodes) - n
	return nodes
}

// signature is a function that can be called.
type signature struct {
	name   string
	params []string
	result string
}

// grower makes programs whose names mean something. Of a thousand expressions so many have another type than is wanted, and of calls another number of arguments.
type grower struct {
	*rand.Rand
	wild   int
	funcs  []signature
	result string
	scopes [][]api.Var
	fresh  int
	alone  bool // no calls and no new
}

func (g *grower) isWild() bool {
	return g.Intn(1000) < g.wild
}

func (g *grower) typing() string {
	return []string{"int", "int", "bool", "text", "[int]", "[text]", "[[bool]]", "[[[[int]]]]", everyType[g.Intn(len(everyType))]}[g.Intn(9)]
}

func (g *grower) plain() string {
	return plainTypes[g.Intn(3)]
}

// declare makes a variable: under a new name, or one of a block around.
func (g *grower) declare(typing string) string {
	g.fresh++
	name := "v" + strconv.Itoa(g.fresh)
	inner := &g.scopes[len(g.scopes)-1]
	if len(g.scopes) > 1 && g.Intn(3) == 0 {
		outer := slices.Concat(g.scopes[:len(g.scopes)-1]...)
		if len(outer) > 0 {
			name = outer[g.Intn(len(outer))].Name
		}
		if slices.ContainsFunc(*inner, func(v api.Var) bool { return v.Name == name }) {
			name = "v" + strconv.Itoa(g.fresh)
		}
	}
	*inner = append(*inner, api.Var{Name: name, Type: typing})
	return name
}

// seen is a name that means a variable of that type, or "".
func (g *grower) seen(typing string) string {
	var met, fit []string
	for _, vars := range slices.Backward(g.scopes) {
		for _, v := range slices.Backward(vars) {
			if slices.Contains(met, v.Name) {
				continue
			}
			met = append(met, v.Name)
			if v.Type == typing {
				fit = append(fit, v.Name)
			}
		}
	}
	if len(fit) == 0 {
		return ""
	}
	return fit[g.Intn(len(fit))]
}

func (g *grower) program() *knot {
	g.funcs = []signature{{name: "main"}}
	for i := range 1 + g.Intn(4) {
		f := signature{name: "f" + strconv.Itoa(i)}
		for range g.Intn(4) {
			f.params = append(f.params, g.typing())
		}
		if g.Intn(4) > 0 {
			f.result = g.typing()
		}
		g.funcs = append(g.funcs, f)
	}
	g.Shuffle(len(g.funcs), func(i, j int) { g.funcs[i], g.funcs[j] = g.funcs[j], g.funcs[i] })
	var funcs []*knot
	for _, f := range g.funcs {
		funcs = append(funcs, g.function(f))
	}
	return tie(api.Node{Kind: api.KProgram}, funcs...)
}

func (g *grower) function(f signature) *knot {
	g.scopes = [][]api.Var{nil}
	g.result = f.result
	var kids []*knot
	for _, typing := range f.params {
		kids = append(kids, tie(api.Node{Kind: api.KParam, Name: g.declare(typing), Type: typing}))
	}
	return tie(api.Node{Kind: api.KFunc, Name: f.name, Type: f.result}, append(kids, g.statements(3))...)
}

// statements is a block whose scope is open already.
func (g *grower) statements(left int) *knot {
	var stmts []*knot
	if left > 0 {
		for range g.Intn(5) {
			stmts = append(stmts, g.statement(left-1))
		}
	}
	return tie(api.Node{Kind: api.KBlock}, stmts...)
}

func (g *grower) block(left int, declared ...api.Var) *knot {
	g.scopes = append(g.scopes, declared)
	b := g.statements(left)
	g.scopes = g.scopes[:len(g.scopes)-1]
	return b
}

func (g *grower) statement(left int) *knot {
	switch g.Intn(12) {
	case 0, 1, 2:
		typing := g.typing()
		value := g.expr(typing, 3)
		return tie(api.Node{Kind: api.KVar, Name: g.declare(typing), Type: typing}, value)
	case 3, 4:
		typing := g.typing()
		if place := g.place(typing); place != nil {
			return tie(api.Node{Kind: api.KAssign}, place, g.expr(typing, 3))
		}
	case 5:
		return g.choice(left)
	case 6:
		return tie(api.Node{Kind: api.KWhile}, g.expr("bool", 3), g.block(left))
	case 7:
		from, to := g.expr("int", 2), g.expr("int", 2)
		return tie(api.Node{Kind: api.KFor, Name: "i"}, from, to, g.block(left, api.Var{Name: "i", Type: "int"}))
	case 8:
		return g.comeBack()
	case 9:
		if place := g.place("int"); place != nil {
			return tie(api.Node{Kind: api.KRead}, place)
		}
	case 10:
		f := g.funcs[g.Intn(len(g.funcs))]
		return tie(api.Node{Kind: api.KDo}, g.call(f, 2))
	case 11:
		return g.block(left)
	}
	var values []*knot
	for range 1 + g.Intn(3) {
		values = append(values, g.expr(g.plain(), 3))
	}
	return tie(api.Node{Kind: api.KPrint}, values...)
}

func (g *grower) choice(left int) *knot {
	kids := []*knot{g.expr("bool", 2), g.block(left)}
	switch g.Intn(3) {
	case 0:
		kids = append(kids, g.choice(left))
	case 1:
		kids = append(kids, g.block(left))
	}
	return tie(api.Node{Kind: api.KIf}, kids...)
}

// comeBack is a return with a value or without, wherever it stands.
func (g *grower) comeBack() *knot {
	node := api.Node{Kind: api.KReturn, Int: int64(g.Intn(3))}
	if g.Intn(3) == 0 {
		return tie(node)
	}
	typing := g.result
	if typing == "" {
		typing = g.typing()
	}
	return tie(node, g.expr(typing, 3))
}

// place is a place of that type, or nil; a wild one may be an element of a text.
func (g *grower) place(typing string) *knot {
	if g.isWild() {
		typing = []string{"text", "[int]", typing}[g.Intn(3)]
	}
	if name := g.seen("[" + typing + "]"); name != "" && g.Intn(2) == 0 {
		return tie(api.Node{Kind: api.KIndex}, tie(api.Node{Kind: api.KName, Name: name}), g.expr("int", 1))
	}
	if name := g.seen("text"); name != "" && g.isWild() {
		return tie(api.Node{Kind: api.KIndex}, tie(api.Node{Kind: api.KName, Name: name}), g.expr("int", 1))
	}
	if name := g.seen(typing); name != "" {
		return tie(api.Node{Kind: api.KName, Name: name})
	}
	return nil
}

func (g *grower) call(f signature, left int) *knot {
	var args []*knot
	for _, typing := range f.params {
		args = append(args, g.expr(typing, left))
	}
	if g.isWild() {
		args = append(args, g.expr(g.typing(), left))
	}
	if g.isWild() {
		args = args[:g.Intn(len(args)+1)]
	}
	return tie(api.Node{Kind: api.KCall, Name: f.name}, args...)
}

// expr is an expression of that type, mostly.
func (g *grower) expr(typing string, left int) *knot {
	if g.isWild() {
		typing = g.typing()
	}
	if name := g.seen(typing); name != "" && g.Intn(3) == 0 {
		return tie(api.Node{Kind: api.KName, Name: name})
	}
	if left > 0 && !g.alone {
		for _, f := range g.funcs {
			if (f.result == typing || g.isWild()) && g.Intn(4) == 0 {
				return g.call(f, left-1)
			}
		}
	}
	array := "[" + typing + "]"
	if left > 0 && isTyping(array) && g.Intn(6) == 0 && (!g.alone || g.seen(array) != "") {
		return tie(api.Node{Kind: api.KIndex}, g.expr(array, left-1), g.expr("int", left-1))
	}
	switch typing {
	case "int":
		return g.number(left)
	case "bool":
		return g.truth(left)
	case "text":
		return g.words(left)
	}
	return g.array(typing, left)
}

// array is an expression of an array's type; alone there may be none, and it has another one.
func (g *grower) array(typing string, left int) *knot {
	if g.alone {
		if name := g.seen(typing); name != "" {
			return tie(api.Node{Kind: api.KName, Name: name})
		}
		return g.number(left)
	}
	elements := typing[1 : len(typing)-1]
	if g.isWild() {
		elements = g.typing()
	}
	return tie(api.Node{Kind: api.KNew, Type: elements}, g.expr("int", max(left-1, 0)))
}

func (g *grower) binary(op api.Op, typing string, left int) *knot {
	return tie(api.Node{Kind: api.KBinary, Op: op}, g.expr(typing, left-1), g.expr(typing, left-1))
}

func (g *grower) number(left int) *knot {
	if left == 0 {
		return tie(api.Node{Kind: api.KInt, Int: int64(g.Intn(9))})
	}
	switch g.Intn(6) {
	case 0:
		return tie(api.Node{Kind: api.KUnary, Op: api.OpNeg}, g.expr("int", left-1))
	case 1, 2:
		return g.binary(api.OpAdd+api.Op(g.Intn(5)), "int", left)
	case 3:
		return tie(api.Node{Kind: api.KIndex}, g.expr("text", left-1), g.expr("int", left-1))
	case 4:
		long := "text"
		if name := g.seen("[int]"); name != "" || !g.alone {
			long = []string{"text", "[int]"}[g.Intn(2)]
		}
		return tie(api.Node{Kind: api.KLen}, g.expr(long, left-1))
	}
	return tie(api.Node{Kind: api.KInt, Int: 5})
}

func (g *grower) truth(left int) *knot {
	if left == 0 {
		return tie(api.Node{Kind: api.KBool, Int: int64(g.Intn(2))})
	}
	switch g.Intn(5) {
	case 0:
		return tie(api.Node{Kind: api.KUnary, Op: api.OpNot}, g.expr("bool", left-1))
	case 1:
		typing := g.plain()
		if !g.alone {
			typing = g.typing()
		}
		return g.binary(api.OpEq+api.Op(g.Intn(2)), typing, left)
	case 2:
		return g.binary(api.OpLt+api.Op(g.Intn(4)), []string{"int", "text"}[g.Intn(2)], left)
	case 3:
		return g.binary(api.OpAnd+api.Op(g.Intn(2)), "bool", left)
	}
	return tie(api.Node{Kind: api.KBool, Int: 1})
}

func (g *grower) words(left int) *knot {
	if left == 0 {
		return tie(api.Node{Kind: api.KText, Text: "a"})
	}
	switch g.Intn(3) {
	case 0:
		return g.binary(api.OpAdd, "text", left)
	case 1:
		return tie(api.Node{Kind: api.KStr}, g.expr(g.plain(), left-1))
	}
	return tie(api.Node{Kind: api.KText, Text: "b"})
}
