// Package alike tells whether two answers about a tree, or two codes, say the same: layers that are handed what a lower one answered hold it against that one's own answer.
package alike

import (
	"slices"

	"retrace/api"
)

// Scoped tells whether names mean the same by both; a list that is empty may be nil or not.
func Scoped(a, b api.Scoped) bool {
	return slices.EqualFunc(a.Funcs, b.Funcs, funcs) &&
		slices.Equal(a.Slots, b.Slots) &&
		slices.Equal(a.Calls, b.Calls) &&
		slices.Equal(a.Targets, b.Targets) &&
		slices.Equal(a.Owners, b.Owners)
}

// Program tells whether both say the same of their trees: what the names mean and which types there are. Neither the trees nor their texts are asked.
func Program(a, b api.Program) bool {
	return Scoped(a.Scoped, b.Scoped) && slices.Equal(a.Types, b.Types)
}

// Code tells whether two codes are one; a list that is empty may be nil or not.
func Code(a, b api.Code) bool {
	return slices.Equal(a.Instrs, b.Instrs) &&
		slices.EqualFunc(a.Entrys, b.Entrys, entrys) &&
		slices.Equal(a.Texts, b.Texts) &&
		a.Main == b.Main
}

func entrys(a, b api.Entry) bool {
	return a.Name == b.Name &&
		a.Start == b.Start &&
		a.Params == b.Params &&
		slices.Equal(a.Sorts, b.Sorts) &&
		a.Result == b.Result
}

func funcs(a, b api.Func) bool {
	return a.Name == b.Name &&
		a.Node == b.Node &&
		a.Params == b.Params &&
		a.Result == b.Result &&
		a.Slots == b.Slots &&
		slices.Equal(a.Vars, b.Vars)
}
