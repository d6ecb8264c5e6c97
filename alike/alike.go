// Package alike tells whether two answers about a tree say the same: layers that are handed what a lower one answered hold it against that one's own answer.
package alike

import (
	"slices"

	"retrace/api"
)

// Scoped tells whether names mean the same by both; a list that is empty may be nil or not.
func Scoped(a, b api.Scoped) bool {
	return slices.EqualFunc(a.Funcs, b.Funcs, funcs) &&
		slices.Equal(a.Slots, b.Slots) &&
		slices.Equal(a.Calls, b.Calls) &&
		slices.Equal(a.Targets, b.Targets) &&
		slices.Equal(a.Owners, b.Owners)
}

// Program tells whether both say the same of their trees: what the names mean and which types there are. Neither the trees nor their texts are asked.
func Program(a, b api.Program) bool {
	return Scoped(a.Scoped, b.Scoped) && slices.Equal(a.Types, b.Types)
}

func funcs(a, b api.Func) bool {
	return a.Name == b.Name &&
		a.Node == b.Node &&
		a.Params == b.Params &&
		a.Result == b.Result &&
		a.Slots == b.Slots &&
		slices.Equal(a.Vars, b.Vars)
}
