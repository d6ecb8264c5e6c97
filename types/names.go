package types

import "retrace/api"

// program judges the nodes of a program, whose names mean what scoped says.
type program struct {
	rules
	scoped api.Scoped
}

func (p *program) judge(n int) (api.Sort, api.Problem) {
	switch p.nodes[n].Kind {
	case api.KName:
		return p.variable(n), api.Problem{}
	case api.KCall:
		return p.call(n)
	case api.KReturn:
		return none, p.result(n)
	}
	return p.rules.judge(n)
}

func (p *program) variable(n int) api.Sort {
	return Sort(p.function(n).Vars[p.scoped.Slots[n]].Type)
}

func (p *program) call(n int) (api.Sort, api.Problem) {
	called := p.scoped.Funcs[p.scoped.Calls[n]]
	kids := p.kids(n)
	if len(kids) != called.Params {
		return none, p.wrong(api.ErrCount, n)
	}
	for i, kid := range kids {
		if problem := p.want(kid, just(Sort(called.Vars[i].Type))); problem.Code != api.OK {
			return none, problem
		}
	}
	return Sort(called.Result), api.Problem{}
}

// result tells what is wrong with what a return gives. Whether it may give anything at all is not asked here.
func (p *program) result(n int) api.Problem {
	result := p.function(n).Result
	if p.nodes[n].Size == 1 || result == "" {
		return api.Problem{}
	}
	return p.want(n+1, just(Sort(result)))
}

// function is the function that a node is in.
func (p *program) function(n int) *api.Func {
	return &p.scoped.Funcs[p.scoped.Owners[n]]
}

// alone judges the nodes of an expression without a program around it.
type alone struct {
	rules
	known map[string]api.Sort // of the variables, by name
}

func (a *alone) judge(n int) (api.Sort, api.Problem) {
	switch a.nodes[n].Kind {
	case api.KName:
		return a.variable(n)
	case api.KCall, api.KNew:
		return none, a.wrong(api.ErrExpr, n)
	}
	return a.rules.judge(n)
}

func (a *alone) variable(n int) (api.Sort, api.Problem) {
	sort, seen := a.known[a.nodes[n].Name]
	switch {
	case !seen:
		return none, a.wrong(api.ErrUnseen, n)
	case !isType(sort):
		return none, a.wrong(api.ErrType, n)
	}
	return sort, api.Problem{}
}
