package flow

import (
	"math/rand"
	"strconv"

	"retrace/api"
)

// knot is a node with its kids.
type knot struct {
	api.Node
	kids []*knot
}

func tie(node api.Node, kids ...*knot) *knot {
	return &knot{node, kids}
}

// tree lays a knot and those below it out as a list, with an At of its own for each node.
func (k *knot) tree() api.Tree {
	nodes := k.appendTo(nil)
	for n := range nodes {
		nodes[n].At = 1000 + 3*n
	}
	return api.Tree{Nodes: nodes}
}

func (k *knot) appendTo(nodes []api.Node) []api.Node {
	n := len(nodes)
	nodes = append(nodes, k.Node)
	for _, kid := range k.kids {
		nodes = kid.appendTo(nodes)
	}
	nodes[n].Size = len(nodes) - n
	return nodes
}

func truth() *knot { return tie(api.Node{Kind: api.KBool, Int: 1}) }

func number() *knot { return tie(api.Node{Kind: api.KInt, Int: 1}) }

func program(funcs ...*knot) *knot { return tie(api.Node{Kind: api.KProgram}, funcs...) }

func block(stmts ...*knot) *knot { return tie(api.Node{Kind: api.KBlock}, stmts...) }

func function(name, result string, stmts ...*knot) *knot {
	return tie(api.Node{Kind: api.KFunc, Name: name, Type: result}, block(stmts...))
}

// grower makes programs that are right in their names and types; of a thousand returns so many have a value where there is no result or none where there is one, so many jumps stand where no loop is, and so many bodies end as they like.
type grower struct {
	*rand.Rand
	wild   int
	hooks  bool
	result string
	vars   int      // of a function, v1, v2 .., each with a name of its own
	labels []string // of the loops around
}

func (g *grower) isWild() bool {
	return g.Intn(1000) < g.wild
}

func (g *grower) program() *knot {
	results := []string{"", "int", "bool", "text", "[int]"}
	funcs := []*knot{g.function("main", "", 0)}
	for i := range g.Intn(4) {
		funcs = append(funcs, g.function("f"+strconv.Itoa(i), results[g.Intn(5)], g.Intn(3)))
	}
	g.Shuffle(len(funcs), func(i, j int) { funcs[i], funcs[j] = funcs[j], funcs[i] })
	return program(funcs...)
}

func (g *grower) function(name, result string, params int) *knot {
	g.result, g.vars, g.labels = result, 0, nil
	var kids []*knot
	for range params {
		kids = append(kids, tie(api.Node{Kind: api.KParam, Name: g.declare(), Type: "int"}))
	}
	body := g.block(3)
	if result != "" && !g.isWild() {
		body.kids = append(body.kids, g.returning(2))
		for g.hooks && g.Intn(3) == 0 {
			body.kids = append(body.kids, g.hook())
		}
	}
	return tie(api.Node{Kind: api.KFunc, Name: name, Type: result}, append(kids, body)...)
}

// returning is a statement that returns.
func (g *grower) returning(left int) *knot {
	if left > 0 {
		switch g.Intn(4) {
		case 0:
			b := g.block(left - 1)
			b.kids = append(b.kids, g.returning(left-1))
			return b
		case 1:
			return tie(api.Node{Kind: api.KIf}, g.condition(), block(g.returning(left-1)), block(g.returning(left-1)))
		case 2:
			other := tie(api.Node{Kind: api.KIf}, g.condition(), block(g.returning(left-1)), block(g.returning(left-1)))
			return tie(api.Node{Kind: api.KIf}, g.condition(), block(g.returning(left-1)), other)
		}
	}
	return g.comeBack()
}

func (g *grower) declare() string {
	g.vars++
	return "v" + strconv.Itoa(g.vars)
}

func (g *grower) block(left int) *knot {
	var stmts []*knot
	if left > 0 {
		for range g.Intn(5) {
			stmts = append(stmts, g.statement(left-1))
		}
	}
	return block(stmts...)
}

func (g *grower) loopBlock(left int, label string) *knot {
	g.labels = append(g.labels, label)
	b := g.block(left)
	g.labels = g.labels[:len(g.labels)-1]
	return b
}

func (g *grower) statement(left int) *knot {
	switch g.Intn(16) {
	case 0:
		return tie(api.Node{Kind: api.KVar, Name: g.declare(), Type: "int"}, number())
	case 1:
		name := g.declare()
		return block(tie(api.Node{Kind: api.KVar, Name: name, Type: "int"}, number()), g.use(name))
	case 2:
		return tie(api.Node{Kind: api.KDo}, tie(api.Node{Kind: api.KCall, Name: "main"}))
	case 3, 4, 5:
		return g.choice(left)
	case 6:
		return tie(api.Node{Kind: api.KWhile}, g.condition(), g.loopBlock(left, ""))
	case 7:
		label := "l" + strconv.Itoa(len(g.labels))
		return tie(api.Node{Kind: api.KFor, Label: label, Name: g.declare()}, number(), number(), g.loopBlock(left, label))
	case 8, 9:
		return g.jump()
	case 10, 11:
		return g.comeBack()
	case 12, 13:
		if g.hooks {
			return g.hook()
		}
	case 14:
		return g.block(left)
	}
	return tie(api.Node{Kind: api.KPrint}, number())
}

func (g *grower) use(name string) *knot {
	place := tie(api.Node{Kind: api.KName, Name: name})
	switch g.Intn(3) {
	case 0:
		return tie(api.Node{Kind: api.KRead}, place)
	case 1:
		if g.hooks {
			return tie(api.Node{Kind: api.KHook, Int: 7, Name: name})
		}
	}
	return tie(api.Node{Kind: api.KAssign}, place, number())
}

func (g *grower) condition() *knot {
	if g.Intn(2) == 0 {
		return tie(api.Node{Kind: api.KBinary, Op: api.OpLt}, number(), number())
	}
	return truth()
}

func (g *grower) choice(left int) *knot {
	kids := []*knot{g.condition(), g.block(left)}
	switch g.Intn(3) {
	case 0:
		kids = append(kids, g.choice(left))
	case 1:
		kids = append(kids, g.block(left))
	}
	return tie(api.Node{Kind: api.KIf}, kids...)
}

func (g *grower) jump() *knot {
	node := api.Node{Kind: []api.Kind{api.KBreak, api.KContinue}[g.Intn(2)]}
	if len(g.labels) > 0 {
		node.Label = g.labels[g.Intn(len(g.labels))]
	} else if !g.isWild() {
		return g.comeBack()
	}
	return tie(node)
}

func (g *grower) comeBack() *knot {
	node := api.Node{Kind: api.KReturn}
	if g.hooks && g.Intn(2) == 0 {
		node.Int = int64(1 + g.Intn(9))
	}
	if (g.result == "") != g.isWild() {
		return tie(node)
	}
	return tie(node, g.value())
}

func (g *grower) value() *knot {
	switch g.result {
	case "bool":
		return truth()
	case "text":
		return tie(api.Node{Kind: api.KText, Text: "a"})
	case "[int]":
		return tie(api.Node{Kind: api.KNew, Type: "int"}, number())
	}
	return number()
}

func (g *grower) hook() *knot {
	return tie(api.Node{Kind: api.KHook, Int: int64(1 + g.Intn(9))})
}
