package verify

import (
	"slices"

	"retrace/api"
)

const (
	intSort  api.Sort = 1
	boolSort api.Sort = 2
	textSort api.Sort = 3
	bracket  api.Sort = 4 // what each one adds to a sort
)

func arrayOf(element api.Sort) api.Sort {
	return element + bracket
}

func isArray(sort api.Sort) bool {
	return sort > bracket
}

// hasLength tells whether values of a sort have elements.
func hasLength(sort api.Sort) bool {
	return isArray(sort) || sort == textSort
}

// elementOf tells the sort of the elements of what has some.
func elementOf(sort api.Sort) api.Sort {
	if sort == textSort {
		return intSort
	}
	return sort - bracket
}

// isPlain tells whether values of a sort can be printed.
func isPlain(sort api.Sort) bool {
	return !isArray(sort)
}

// areOperands tells whether an operator takes two of a sort.
func areOperands(op api.Op, sort api.Sort) bool {
	switch op {
	case api.OpEq, api.OpNe:
		return true
	case api.OpSub, api.OpMul, api.OpDiv, api.OpMod:
		return sort == intSort
	}
	return sort == intSort || sort == textSort
}

// stack is a list of sorts, the top last. None is ever changed, so what is taken off one may lie in others.
type stack []api.Sort

// with is the stack with one more on its top, as memory of its own.
func (s stack) with(top api.Sort) stack {
	return slices.Concat(s, stack{top})
}

// list is what is told of a stack: memory of its own, nil if none is known.
func (s stack) list() []api.Sort {
	if s == nil {
		return nil
	}
	sorts := make([]api.Sort, len(s))
	copy(sorts, s)
	return sorts
}
