package types

import (
	"slices"
	"strings"

	"retrace/api"
	"retrace/scope"
	"retrace/tree"
)

// allTypes is every type there is, written out from the chapter's words.
func allTypes() []string {
	var all []string
	for _, word := range []string{"int", "bool", "text"} {
		for pairs := range 5 {
			all = append(all, strings.Repeat("[", pairs)+word+strings.Repeat("]", pairs))
		}
	}
	return all
}

var everyType = allTypes()

var plainTypes = []string{"int", "bool", "text"}

func isTyping(text string) bool {
	return slices.Contains(everyType, text)
}

func isArrayTyping(text string) bool {
	return isTyping(text) && text[0] == '['
}

// chapter tells what the chapter says of a tree, word by word: what its nodes want and have, by the types that are said of their kids.
type chapter struct {
	nodes  []api.Node
	types  []string
	scoped api.Scoped
	vars   []api.Var // of an expression alone
	alone  bool
}

// wish is something that is wanted: whether it is so; if not, what is told of which node.
type wish struct {
	holds bool
	code  api.Errno
	node  int
}

func (c chapter) kids(n int) []int {
	var kids []int
	for kid := n + 1; kid < n+c.nodes[n].Size; kid += c.nodes[kid].Size {
		kids = append(kids, kid)
	}
	return kids
}

func (c chapter) isExpr(n int) bool {
	return c.nodes[n].Kind >= api.KInt
}

// oneOf is that a kid has one of some types.
func (c chapter) oneOf(kid int, typings ...string) wish {
	has := c.types[kid]
	return wish{isTyping(has) && slices.Contains(typings, has), api.ErrType, kid}
}

func (c chapter) arrayOr(kid int, typings ...string) wish {
	w := c.oneOf(kid, typings...)
	w.holds = w.holds || isArrayTyping(c.types[kid])
	return w
}

// settable is that a place which is an element is one of an array.
func (c chapter) settable(place int) wish {
	if c.nodes[place].Kind != api.KIndex {
		return wish{holds: true}
	}
	return wish{isArrayTyping(c.types[c.kids(place)[0]]), api.ErrType, place}
}

// row is the table's row of a node: what is wanted, in its order, and the type.
func (c chapter) row(n int) ([]wish, string) {
	node := c.nodes[n]
	kids := c.kids(n)
	switch node.Kind {
	case api.KInt:
		return nil, "int"
	case api.KBool:
		return nil, "bool"
	case api.KText:
		return nil, "text"
	case api.KName:
		return c.variable(n)
	case api.KIndex:
		has := c.types[kids[0]]
		typing := "int"
		if isArrayTyping(has) {
			typing = strings.TrimSuffix(strings.TrimPrefix(has, "["), "]")
		}
		return []wish{c.arrayOr(kids[0], "text"), c.oneOf(kids[1], "int")}, typing
	case api.KCall:
		if c.alone {
			return []wish{{false, api.ErrExpr, n}}, ""
		}
		return c.call(n)
	case api.KUnary:
		typing := map[api.Op]string{api.OpNeg: "int", api.OpNot: "bool"}[node.Op]
		return []wish{c.oneOf(kids[0], typing)}, typing
	case api.KBinary:
		return c.binary(n)
	case api.KNew:
		if c.alone {
			return []wish{{false, api.ErrExpr, n}}, ""
		}
		few := wish{strings.Count(node.Type, "[") < 4, api.ErrType, n}
		return []wish{c.oneOf(kids[0], "int"), few}, "[" + node.Type + "]"
	case api.KLen:
		return []wish{c.arrayOr(kids[0], "text")}, "int"
	case api.KStr:
		return []wish{c.oneOf(kids[0], plainTypes...)}, "text"
	}
	return c.statement(n), ""
}

func (c chapter) statement(n int) []wish {
	node := c.nodes[n]
	kids := c.kids(n)
	switch node.Kind {
	case api.KVar:
		return []wish{c.oneOf(kids[0], node.Type)}
	case api.KAssign:
		return []wish{c.settable(kids[0]), c.oneOf(kids[1], c.types[kids[0]])}
	case api.KIf, api.KWhile:
		return []wish{c.oneOf(kids[0], "bool")}
	case api.KFor:
		return []wish{c.oneOf(kids[0], "int"), c.oneOf(kids[1], "int")}
	case api.KReturn:
		result := c.scoped.Funcs[c.scoped.Owners[n]].Result
		if len(kids) > 0 && result != "" {
			return []wish{c.oneOf(kids[0], result)}
		}
	case api.KPrint:
		var wishes []wish
		for _, kid := range kids {
			wishes = append(wishes, c.oneOf(kid, plainTypes...))
		}
		return wishes
	case api.KRead:
		return []wish{c.settable(kids[0]), c.oneOf(kids[0], "int")}
	}
	return nil
}

func (c chapter) variable(n int) ([]wish, string) {
	if !c.alone {
		return nil, c.scoped.Funcs[c.scoped.Owners[n]].Vars[c.scoped.Slots[n]].Type
	}
	for _, v := range slices.Backward(c.vars) {
		if v.Name == c.nodes[n].Name {
			return []wish{{isTyping(v.Type), api.ErrType, n}}, v.Type
		}
	}
	return []wish{{false, api.ErrUnseen, n}}, ""
}

func (c chapter) call(n int) ([]wish, string) {
	f := c.scoped.Funcs[c.scoped.Calls[n]]
	kids := c.kids(n)
	wishes := []wish{{len(kids) == f.Params, api.ErrCount, n}}
	for i, kid := range kids {
		if i < f.Params {
			wishes = append(wishes, c.oneOf(kid, f.Vars[i].Type))
		}
	}
	return wishes, f.Result
}

func (c chapter) binary(n int) ([]wish, string) {
	kids := c.kids(n)
	a, b := kids[0], kids[1]
	first := c.types[a]
	switch c.nodes[n].Op {
	case api.OpAdd:
		return []wish{c.oneOf(a, "int", "text"), c.oneOf(b, first)}, first
	case api.OpSub, api.OpMul, api.OpDiv, api.OpMod:
		return []wish{c.oneOf(a, "int"), c.oneOf(b, "int")}, first
	case api.OpLt, api.OpLe, api.OpGt, api.OpGe:
		return []wish{c.oneOf(a, "int", "text"), c.oneOf(b, first)}, "bool"
	case api.OpEq, api.OpNe:
		return []wish{c.oneOf(a, everyType...), c.oneOf(b, first)}, "bool"
	case api.OpAnd, api.OpOr:
		return []wish{c.oneOf(a, "bool"), c.oneOf(b, "bool")}, "bool"
	}
	panic("no operator of two operands")
}

// order is the walk through a node's subtree.
func (c chapter) order(n int) []int {
	var ahead, behind []int
	for _, kid := range c.kids(n) {
		if c.isExpr(kid) {
			ahead = append(ahead, c.order(kid)...)
		} else {
			behind = append(behind, c.order(kid)...)
		}
	}
	return slices.Concat(ahead, []int{n}, behind)
}

// judged is the types of all nodes, or the first thing that is wrong.
func (c chapter) judged() ([]string, api.Problem) {
	c.types = make([]string, len(c.nodes))
	for _, n := range c.order(0) {
		wishes, typing := c.row(n)
		for _, w := range wishes {
			if !w.holds {
				return nil, api.Problem{Code: w.code, At: c.nodes[w.node].At}
			}
		}
		c.types[n] = typing
	}
	return c.types, api.Problem{}
}

// wantCheck is what Check must answer to a tree with the Scoped that is right for it.
func wantCheck(t api.Tree) ([]string, api.Problem) {
	s, problem := scope.Resolve(t)
	if problem.Code != api.OK {
		return nil, api.Problem{Code: api.ErrArg}
	}
	return chapter{nodes: t.Nodes, scoped: s}.judged()
}

// wantFollows is what Follows must answer to a tree with the Scoped that is right for it.
func wantFollows(t api.Tree, types []string) (bool, int) {
	s, problem := scope.Resolve(t)
	if problem.Code != api.OK || len(types) != len(t.Nodes) {
		return false, 0
	}
	c := chapter{nodes: t.Nodes, types: types, scoped: s}
	for n := range t.Nodes {
		wishes, typing := c.row(n)
		if slices.ContainsFunc(wishes, func(w wish) bool { return !w.holds }) || types[n] != typing {
			return false, n
		}
	}
	return true, -1
}

// wantOf is what Of must answer.
func wantOf(t api.Tree, vars []api.Var) (string, api.Problem) {
	if tree.Valid(t) != api.OK || t.Nodes[0].Kind == api.KProgram {
		return "", api.Problem{Code: api.ErrTree}
	}
	types, problem := chapter{nodes: t.Nodes, vars: vars, alone: true}.judged()
	if problem.Code != api.OK {
		return "", problem
	}
	return types[0], api.Problem{}
}
