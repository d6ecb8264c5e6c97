package flow

import (
	"slices"

	"retrace/api"
	"retrace/tree"
)

// chapter is a program's tree, of which the chapter's words are asked, written out here a second time: each anew from the nodes within one another.
type chapter struct {
	nodes []api.Node
}

// chapterOf tells too whether there is a program's tree at all.
func chapterOf(t api.Tree) (chapter, bool) {
	return chapter{t.Nodes}, tree.Valid(t) == api.OK && t.Nodes[0].Kind == api.KProgram
}

func (c chapter) kids(n int) []int {
	var kids []int
	for kid := n + 1; kid < n+c.nodes[n].Size; kid += c.nodes[kid].Size {
		kids = append(kids, kid)
	}
	return kids
}

func (c chapter) isHook(n int) bool {
	return c.nodes[n].Kind == api.KHook
}

// counting is the kids of a block without the hook statements.
func (c chapter) counting(block int) []int {
	return slices.DeleteFunc(c.kids(block), c.isHook)
}

func (c chapter) isStatement(n int) bool {
	return slices.Contains([]api.Kind{api.KBlock, api.KVar, api.KAssign, api.KIf, api.KWhile, api.KFor, api.KBreak, api.KContinue, api.KReturn, api.KPrint, api.KRead, api.KDo, api.KHook}, c.nodes[n].Kind)
}

func (c chapter) returns(n int) bool {
	switch c.nodes[n].Kind {
	case api.KReturn:
		return true
	case api.KBlock:
		stmts := c.counting(n)
		return len(stmts) > 0 && c.returns(stmts[len(stmts)-1])
	case api.KIf:
		kids := c.kids(n)
		return len(kids) == 3 && c.returns(kids[1]) && c.returns(kids[2])
	}
	return false
}

func (c chapter) canEnd(n int) bool {
	kids := c.kids(n)
	switch c.nodes[n].Kind {
	case api.KReturn, api.KBreak, api.KContinue:
		return false
	case api.KBlock:
		return !slices.ContainsFunc(kids, func(kid int) bool { return !c.canEnd(kid) })
	case api.KIf:
		return len(kids) == 2 || c.canEnd(kids[1]) || c.canEnd(kids[2])
	}
	return true
}

// wrong tells the code of what is said of a node, its function being f.
func (c chapter) wrong(n, f int, hooks bool) api.Errno {
	node := c.nodes[n]
	if !hooks && (node.Kind == api.KHook || node.Kind == api.KReturn && node.Int != 0) {
		return api.ErrHook
	}
	if node.Kind == api.KFunc && node.Type != "" && !c.returns(slices.Max(c.kids(n))) {
		return api.ErrReturn
	}
	if node.Kind == api.KReturn {
		hasValue, hasResult := len(c.kids(n)) == 1, c.nodes[f].Type != ""
		if hasValue && !hasResult || !hasValue && hasResult {
			return api.ErrReturn
		}
	}
	return api.OK
}

// function is the KFunc in whose subtree a node is, or 0.
func (c chapter) function(n int) int {
	for _, f := range c.kids(0) {
		if f <= n && n < f+c.nodes[f].Size {
			return f
		}
	}
	return 0
}

func wantCheck(t api.Tree, hooks bool) api.Problem {
	c, ok := chapterOf(t)
	if !ok {
		return api.Problem{Code: api.ErrTree}
	}
	for n, node := range c.nodes {
		if code := c.wrong(n, c.function(n), hooks); code != api.OK {
			return api.Problem{Code: code, At: node.At}
		}
	}
	return api.Problem{}
}

func wantEnds(t api.Tree, n int) bool {
	c, ok := chapterOf(t)
	return ok && 0 <= n && n < len(c.nodes) && c.isStatement(n) && c.canEnd(n)
}

func wantDead(t api.Tree) []int {
	var dead []int
	c, ok := chapterOf(t)
	if !ok {
		return nil
	}
	for block, node := range c.nodes {
		if node.Kind != api.KBlock {
			continue
		}
		kids := c.kids(block)
		for i, kid := range kids {
			behind := slices.ContainsFunc(kids[:i], func(earlier int) bool { return !c.canEnd(earlier) })
			if behind && !c.isHook(kid) {
				dead = append(dead, kid)
			}
		}
	}
	slices.Sort(dead)
	return dead
}
