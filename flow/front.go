package flow

import (
	"retrace/api"
	"retrace/parse"
	"retrace/scope"
	"retrace/types"
)

// part is one of the front's: it looks at what is there of a program, adds its own to it, or tells what is wrong.
type part func(p *api.Program) api.Problem

// through sends a program through the parts, till one tells a problem.
func through(p api.Program, parts []part) (api.Program, api.Problem) {
	for _, do := range parts {
		if problem := do(&p); problem.Code != api.OK {
			return api.Program{}, problem
		}
	}
	return p, api.Problem{}
}

func checkLength(p *api.Program) api.Problem {
	if len(p.Text) > api.MaxSource {
		return api.Problem{Code: api.ErrSize, At: api.MaxSource}
	}
	return api.Problem{}
}

func parseText(p *api.Program) (problem api.Problem) {
	p.Tree, problem = parse.Program(p.Text)
	return problem
}

func checkTree(p *api.Program) api.Problem {
	if !isProgram(p.Tree) {
		return api.Problem{Code: api.ErrTree}
	}
	return api.Problem{}
}

func checkCount(limit int) part {
	return func(p *api.Program) api.Problem {
		if nodes := p.Tree.Nodes; len(nodes) > limit {
			return api.Problem{Code: api.ErrSize, At: nodes[limit].At}
		}
		return api.Problem{}
	}
}

func resolveNames(p *api.Program) (problem api.Problem) {
	p.Scoped, problem = scope.Resolve(p.Tree)
	return problem
}

func findTypes(p *api.Program) (problem api.Problem) {
	p.Types, problem = types.Check(p.Tree, p.Scoped)
	return problem
}

func checkWays(hooks bool) part {
	return func(p *api.Program) api.Problem {
		return Check(p.Tree, hooks)
	}
}
