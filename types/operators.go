package types

import "retrace/api"

// operator is what an operator of two operands wants and gives: it takes the first one's sort, wants the same of the second, and gives a sort by it.
type operator struct {
	takes func(first api.Sort) bool
	gives func(first api.Sort) api.Sort
}

func operatorOf(op api.Op) operator {
	switch op {
	case api.OpAdd:
		return operator{takes: isIntOrText, gives: itself}
	case api.OpSub, api.OpMul, api.OpDiv, api.OpMod:
		return operator{takes: just(intSort), gives: itself}
	case api.OpLt, api.OpLe, api.OpGt, api.OpGe:
		return operator{takes: isIntOrText, gives: alwaysBool}
	case api.OpEq, api.OpNe:
		return operator{takes: isType, gives: alwaysBool}
	}
	// OpAnd and OpOr: a tree has no others.
	return operator{takes: just(boolSort), gives: alwaysBool}
}

func itself(first api.Sort) api.Sort {
	return first
}

func alwaysBool(api.Sort) api.Sort {
	return boolSort
}
