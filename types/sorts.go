package types

import (
	"strings"

	"retrace/api"
)

// plain are the types without brackets: their sorts are their places here, from 1 on.
var plain = [...]string{"int", "bool", "text"}

// The rules go by sorts: two types are the same just if their sorts are.
const (
	none     api.Sort = 0
	intSort  api.Sort = 1
	boolSort api.Sort = 2
	textSort api.Sort = 3
	brackets api.Sort = 4 // what a pair of them adds
	greatest api.Sort = textSort + api.MaxArray*brackets
	strange  api.Sort = -1 // stands for what is said to be a type and is none
)

// Sort tells a type's number.
func Sort(t string) api.Sort {
	for pairs := range api.Sort(api.MaxArray + 1) {
		for i, word := range plain {
			if t == word {
				return api.Sort(i+1) + pairs*brackets
			}
		}
		inner, opened := strings.CutPrefix(t, "[")
		inner, closed := strings.CutSuffix(inner, "]")
		if !opened || !closed {
			return none
		}
		t = inner
	}
	return none
}

// Kind tells the kind of a type's values.
func Kind(t string) api.ValueKind {
	switch sort := Sort(t); sort {
	case none:
		return api.ValNone
	case intSort:
		return api.ValInt
	case boolSort:
		return api.ValBool
	case textSort:
		return api.ValText
	}
	return api.ValRef
}

// name is the type of that sort, or the empty text for none.
func name(sort api.Sort) string {
	if sort == none {
		return ""
	}
	pairs := int(sort / brackets)
	return strings.Repeat("[", pairs) + plain[sort%brackets-1] + strings.Repeat("]", pairs)
}

// saidSort is the sort of what someone says is a type. Only the empty text says that there is none.
func saidSort(said string) api.Sort {
	sort := Sort(said)
	if sort == none && said != "" {
		return strange
	}
	return sort
}

func isType(sort api.Sort) bool {
	return sort > none
}

func isPlain(sort api.Sort) bool {
	return isType(sort) && sort < brackets
}

func isArray(sort api.Sort) bool {
	return sort > brackets
}

func isArrayOrText(sort api.Sort) bool {
	return isArray(sort) || sort == textSort
}

func isIntOrText(sort api.Sort) bool {
	return sort == intSort || sort == textSort
}

// just asks for one type. What is no type is never wanted, so not even another none is it.
func just(wanted api.Sort) func(api.Sort) bool {
	return func(sort api.Sort) bool {
		return isType(wanted) && sort == wanted
	}
}
