package events

import (
	"slices"

	"retrace/alike"
	"retrace/api"
	"retrace/compile"
	"retrace/flow"
	"retrace/hooks"
)

// Built is a program made ready: its code with hooks, and the table.
type Built struct {
	Program api.Program
	Code    api.Code
	Table   []api.Hook
}

// builder holds what the parts of Build have made so far; each goes on from what the one ahead of it has left.
type builder struct {
	text   string
	built  Built
	tree   api.Tree    // with hooks
	hooked api.Program // of that tree
}

// Build makes a source ready, or tells the first thing that is wrong.
func Build(text string) (Built, api.Problem) {
	b := &builder{text: text}
	for _, do := range []func() api.Problem{b.check, b.instrument, b.checkHooked, b.compile} {
		if problem := do(); problem.Code != api.OK {
			return Built{}, problem
		}
	}
	return b.built, api.Problem{}
}

func (b *builder) check() (problem api.Problem) {
	b.built.Program, problem = flow.Front(b.text)
	return problem
}

func (b *builder) instrument() api.Problem {
	tree, table, errno := hooks.Instrument(b.built.Program)
	b.tree, b.built.Table = tree, table
	return api.Problem{Code: errno}
}

func (b *builder) checkHooked() (problem api.Problem) {
	b.hooked, problem = flow.Tree(b.tree)
	return problem
}

func (b *builder) compile() api.Problem {
	made, errno := compile.Program(b.hooked)
	b.built.Code = made
	return api.Problem{Code: errno}
}

// isBuilt tells whether all of a built program is what Build makes of its text.
func isBuilt(b Built) bool {
	own, problem := Build(b.Program.Text)
	return problem.Code == api.OK &&
		slices.Equal(own.Program.Tree.Nodes, b.Program.Tree.Nodes) &&
		alike.Program(own.Program, b.Program) &&
		alike.Code(own.Code, b.Code) &&
		slices.Equal(own.Table, b.Table)
}
