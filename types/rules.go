package types

import "retrace/api"

// rules judges the nodes of a tree by the sorts of their kids, but for those whose rule asks what a name means.
type rules struct {
	nodes []api.Node
	sorts []api.Sort // by node, as far as they are known
}

func newRules(nodes []api.Node) rules {
	return rules{nodes: nodes, sorts: make([]api.Sort, len(nodes))}
}

// settle finds the sorts of all nodes, or the first thing that is wrong.
func (r *rules) settle(judge func(n int) (api.Sort, api.Problem)) api.Problem {
	for n := range walk(r.nodes) {
		sort, problem := judge(n)
		if problem.Code != api.OK {
			return problem
		}
		r.sorts[n] = sort
	}
	return api.Problem{}
}

// judge tells the sort that a node has, if nothing is wrong with it.
func (r *rules) judge(n int) (api.Sort, api.Problem) {
	switch node := r.nodes[n]; node.Kind {
	case api.KInt:
		return intSort, api.Problem{}
	case api.KBool:
		return boolSort, api.Problem{}
	case api.KText:
		return textSort, api.Problem{}
	case api.KIndex:
		return r.element(n + 1), first(r.want(n+1, isArrayOrText), r.want(r.second(n), just(intSort)))
	case api.KUnary:
		sort := unarySort(node.Op)
		return sort, r.want(n+1, just(sort))
	case api.KBinary:
		return r.binary(n)
	case api.KNew:
		sort := Sort(node.Type) + brackets
		return sort, first(r.want(n+1, just(intSort)), r.wantShallow(n, sort))
	case api.KLen:
		return intSort, r.want(n+1, isArrayOrText)
	case api.KStr:
		return textSort, r.want(n+1, isPlain)
	}
	return none, r.statement(n)
}

// statement tells what is wrong with a node that has no type.
func (r *rules) statement(n int) api.Problem {
	switch node := r.nodes[n]; node.Kind {
	case api.KVar:
		return r.want(n+1, just(Sort(node.Type)))
	case api.KAssign:
		return first(r.wantPlace(n+1), r.want(r.second(n), just(r.sorts[n+1])))
	case api.KIf, api.KWhile:
		return r.want(n+1, just(boolSort))
	case api.KFor:
		return first(r.want(n+1, just(intSort)), r.want(r.second(n), just(intSort)))
	case api.KPrint:
		for _, kid := range r.kids(n) {
			if problem := r.want(kid, isPlain); problem.Code != api.OK {
				return problem
			}
		}
	case api.KRead:
		return first(r.wantPlace(n+1), r.want(n+1, just(intSort)))
	}
	return api.Problem{}
}

// element is the sort of what an index finds in a node.
func (r *rules) element(n int) api.Sort {
	if sort := r.sorts[n]; isArray(sort) {
		return sort - brackets
	}
	return intSort
}

func unarySort(op api.Op) api.Sort {
	if op == api.OpNot {
		return boolSort
	}
	return intSort
}

func (r *rules) binary(n int) (api.Sort, api.Problem) {
	op := operatorOf(r.nodes[n].Op)
	sort := r.sorts[n+1]
	return op.gives(sort), first(r.want(n+1, op.takes), r.want(r.second(n), just(sort)))
}

// want asks for a sort of a kid.
func (r *rules) want(kid int, fits func(api.Sort) bool) api.Problem {
	if fits(r.sorts[kid]) {
		return api.Problem{}
	}
	return r.wrong(api.ErrType, kid)
}

// wantPlace asks whether something can be put into a place: the elements of a text have a type, but none is ever set.
func (r *rules) wantPlace(n int) api.Problem {
	if r.nodes[n].Kind != api.KIndex || isArray(r.sorts[n+1]) {
		return api.Problem{}
	}
	return r.wrong(api.ErrType, n)
}

// wantShallow asks whether a new array's sort is that of a type, and not one of too many brackets.
func (r *rules) wantShallow(n int, sort api.Sort) api.Problem {
	if sort <= greatest {
		return api.Problem{}
	}
	return r.wrong(api.ErrType, n)
}

func (r *rules) wrong(code api.Errno, n int) api.Problem {
	return api.Problem{Code: code, At: r.nodes[n].At}
}

// second is the second kid of a node.
func (r *rules) second(n int) int {
	return n + 1 + r.nodes[n+1].Size
}

func (r *rules) kids(n int) []int {
	var kids []int
	for kid := n + 1; kid < n+r.nodes[n].Size; kid += r.nodes[kid].Size {
		kids = append(kids, kid)
	}
	return kids
}

// first is the first of some problems that is one.
func first(problems ...api.Problem) api.Problem {
	for _, problem := range problems {
		if problem.Code != api.OK {
			return problem
		}
	}
	return api.Problem{}
}
