package scope

import (
	"math/rand"
	"slices"

	"retrace/api"
)

// knot is a node with its kids.
type knot struct {
	api.Node
	kids []*knot
}

func tie(node api.Node, kids ...*knot) *knot {
	return &knot{node, kids}
}

// tree lays a knot and those below it out as a list, with an At of its own for each node.
func (k *knot) tree() api.Tree {
	nodes := k.appendTo(nil)
	for n := range nodes {
		nodes[n].At = 1000 + 3*n
	}
	return api.Tree{Nodes: nodes}
}

func (k *knot) appendTo(nodes []api.Node) []api.Node {
	n := len(nodes)
	nodes = append(nodes, k.Node)
	for _, kid := range k.kids {
		nodes = kid.appendTo(nodes)
	}
	nodes[n].Size = len(nodes) - n
	return nodes
}

// grower makes programs. Of a hundred names, labels and declarations so many are taken as they come, whether they may stand there or not.
type grower struct {
	*rand.Rand
	wild   int
	funcs  []string
	scopes [][]string
	labels []string // of the loops around, "" for one without
}

var names = []string{"a", "b", "c", "d", "f", "main"}

func (g *grower) any() string {
	return names[g.Intn(len(names))]
}

func (g *grower) isWild() bool {
	return g.Intn(100) < g.wild
}

// fresh is a name for a declaration in the innermost scope; "" if none is left.
func (g *grower) fresh() string {
	if g.isWild() {
		return g.any()
	}
	return g.pick(slices.DeleteFunc(slices.Clone(names), func(name string) bool {
		return slices.Contains(g.scopes[len(g.scopes)-1], name)
	}))
}

func (g *grower) pick(list []string) string {
	if len(list) == 0 {
		return ""
	}
	return list[g.Intn(len(list))]
}

func (g *grower) declare(name string) {
	inner := &g.scopes[len(g.scopes)-1]
	*inner = append(*inner, name)
}

func (g *grower) seen() string {
	if g.isWild() {
		return g.any()
	}
	return g.pick(slices.Concat(g.scopes...))
}

func (g *grower) typing() string {
	return []string{"int", "bool", "text", "[int]", "[[bool]]"}[g.Intn(5)]
}

func (g *grower) program() *knot {
	g.funcs = []string{"main"}
	for _, name := range []string{"f", "g", "a"} {
		if g.Intn(2) == 0 {
			g.funcs = append(g.funcs, name)
		}
	}
	g.Shuffle(len(g.funcs), func(i, j int) { g.funcs[i], g.funcs[j] = g.funcs[j], g.funcs[i] })
	declared := slices.Clone(g.funcs)
	for i := range declared {
		if g.isWild() {
			declared[i] = g.any()
		}
	}
	var funcs []*knot
	for _, name := range declared {
		funcs = append(funcs, g.function(name))
	}
	return tie(api.Node{Kind: api.KProgram}, funcs...)
}

func (g *grower) function(name string) *knot {
	node := api.Node{Kind: api.KFunc, Name: name}
	var kids []*knot
	g.scopes = [][]string{nil}
	g.labels = nil
	if name != "main" || g.isWild() {
		for range g.Intn(4) {
			param := g.fresh()
			kids = append(kids, tie(api.Node{Kind: api.KParam, Name: param, Type: g.typing()}))
			g.declare(param)
		}
		if g.Intn(2) == 0 {
			node.Type = g.typing()
		}
	}
	return tie(node, append(kids, g.statements(4))...)
}

// statements is a block whose scope is open already.
func (g *grower) statements(left int) *knot {
	var stmts []*knot
	if left > 0 {
		for range g.Intn(5) {
			stmts = append(stmts, g.statement(left-1))
		}
	}
	return tie(api.Node{Kind: api.KBlock}, stmts...)
}

func (g *grower) block(left int, declared ...string) *knot {
	g.scopes = append(g.scopes, declared)
	b := g.statements(left)
	g.scopes = g.scopes[:len(g.scopes)-1]
	return b
}

func (g *grower) loopBlock(left int, label string, declared ...string) *knot {
	g.labels = append(g.labels, label)
	b := g.block(left, declared...)
	g.labels = g.labels[:len(g.labels)-1]
	return b
}

// label is a label for a loop, or "".
func (g *grower) label() string {
	label := g.pick([]string{"", "a", "l", "m"})
	if slices.Contains(g.labels, label) && !g.isWild() {
		return ""
	}
	return label
}

func (g *grower) statement(left int) *knot {
	switch g.Intn(14) {
	case 0, 1, 2:
		if name := g.fresh(); name != "" {
			k := tie(api.Node{Kind: api.KVar, Name: name, Type: g.typing()}, g.expr(2))
			g.declare(name)
			return k
		}
	case 3:
		if name := g.seen(); name != "" {
			return tie(api.Node{Kind: api.KAssign}, g.place(name), g.expr(2))
		}
	case 4:
		return g.choice(left)
	case 5:
		label := g.label()
		return tie(api.Node{Kind: api.KWhile, Label: label}, g.expr(2), g.loopBlock(left, label))
	case 6:
		node := api.Node{Kind: api.KFor, Label: g.label(), Name: g.any()}
		return tie(node, g.expr(1), g.expr(1), g.loopBlock(left, node.Label, node.Name))
	case 7, 8:
		return g.jump()
	case 9:
		node := api.Node{Kind: api.KReturn, Int: int64(g.Intn(3))}
		if g.Intn(2) == 0 {
			return tie(node)
		}
		return tie(node, g.expr(2))
	case 10:
		if name := g.seen(); name != "" {
			return tie(api.Node{Kind: api.KRead}, g.place(name))
		}
	case 11:
		return tie(api.Node{Kind: api.KDo}, g.call(2))
	case 12:
		node := api.Node{Kind: api.KHook, Int: int64(1 + g.Intn(9))}
		if g.Intn(3) > 0 {
			node.Name = g.seen()
		}
		return tie(node)
	case 13:
		return g.block(left)
	}
	return tie(api.Node{Kind: api.KPrint}, g.expr(2), g.expr(1))
}

func (g *grower) choice(left int) *knot {
	kids := []*knot{g.expr(1), g.block(left)}
	switch g.Intn(3) {
	case 0:
		kids = append(kids, g.choice(left))
	case 1:
		kids = append(kids, g.block(left))
	}
	return tie(api.Node{Kind: api.KIf}, kids...)
}

func (g *grower) jump() *knot {
	node := api.Node{Kind: []api.Kind{api.KBreak, api.KContinue}[g.Intn(2)], Label: g.pick(g.labels)}
	if g.isWild() {
		node.Label = g.pick([]string{"", "a", "l", "m"})
	} else if len(g.labels) == 0 {
		return tie(api.Node{Kind: api.KReturn})
	}
	return tie(node)
}

func (g *grower) place(name string) *knot {
	p := tie(api.Node{Kind: api.KName, Name: name})
	for range g.Intn(2) {
		p = tie(api.Node{Kind: api.KIndex}, p, g.expr(1))
	}
	return p
}

func (g *grower) call(left int) *knot {
	node := api.Node{Kind: api.KCall, Name: g.pick(g.funcs)}
	if g.isWild() {
		node.Name = g.any()
	}
	var args []*knot
	for range g.Intn(3) {
		args = append(args, g.expr(left))
	}
	return tie(node, args...)
}

func (g *grower) expr(left int) *knot {
	if name := g.seen(); name != "" && (left == 0 || g.Intn(2) == 0) {
		return tie(api.Node{Kind: api.KName, Name: name})
	}
	if left == 0 {
		return tie(api.Node{Kind: api.KInt, Int: 7})
	}
	switch g.Intn(7) {
	case 0:
		return g.call(left - 1)
	case 1:
		return tie(api.Node{Kind: api.KNew, Type: g.typing()}, g.expr(left-1))
	case 2:
		return tie(api.Node{Kind: api.KLen}, g.expr(left-1))
	case 3:
		return tie(api.Node{Kind: api.KText, Text: "a"})
	case 4:
		return tie(api.Node{Kind: api.KUnary, Op: api.OpNot}, g.expr(left-1))
	case 5:
		return tie(api.Node{Kind: api.KIndex}, g.expr(left-1), g.expr(left-1))
	}
	return tie(api.Node{Kind: api.KBinary, Op: api.OpAdd}, g.expr(left-1), g.expr(left-1))
}
