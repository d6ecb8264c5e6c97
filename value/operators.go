package value

import (
	"cmp"
	"strings"

	"retrace/api"
)

// ofInts does an operator of two ints. Go's own int64 wraps and cuts just as Tern's ints do, the least one by -1 too.
func ofInts(op api.Op, a, b int64) (api.Value, api.Trap) {
	switch op {
	case api.OpAdd:
		return number(a + b), api.NoTrap
	case api.OpSub:
		return number(a - b), api.NoTrap
	case api.OpMul:
		return number(a * b), api.NoTrap
	case api.OpDiv:
		if b == 0 {
			return api.Value{}, api.TrapDivide
		}
		return number(a / b), api.NoTrap
	case api.OpMod:
		if b == 0 {
			return api.Value{}, api.TrapDivide
		}
		return number(a % b), api.NoTrap
	}
	return compared(op, a, b)
}

func ofTexts(op api.Op, a, b string) (api.Value, api.Trap) {
	if op == api.OpAdd {
		return joined(a, b)
	}
	return compared(op, a, b)
}

// ofNames does an operator of two numbers that only name something, a bool or an array: they have no order.
func ofNames(op api.Op, a, b int64) (api.Value, api.Trap) {
	if op == api.OpEq || op == api.OpNe {
		return compared(op, a, b)
	}
	return api.Value{}, api.TrapStuck
}

func joined(a, b string) (api.Value, api.Trap) {
	if len(a)+len(b) > api.MaxText {
		return api.Value{}, api.TrapLong
	}
	// Joined with an empty text, the other one would be handed out itself.
	return api.Value{Kind: api.ValText, Text: strings.Clone(a + b)}, api.NoTrap
}

// compared does a comparison. All are told from the one order, so that no two can contradict each other.
func compared[T int64 | string](op api.Op, a, b T) (api.Value, api.Trap) {
	order := cmp.Compare(a, b)
	switch op {
	case api.OpEq:
		return truth(order == 0), api.NoTrap
	case api.OpNe:
		return truth(order != 0), api.NoTrap
	case api.OpLt:
		return truth(order < 0), api.NoTrap
	case api.OpLe:
		return truth(order <= 0), api.NoTrap
	case api.OpGt:
		return truth(order > 0), api.NoTrap
	case api.OpGe:
		return truth(order >= 0), api.NoTrap
	}
	return api.Value{}, api.TrapStuck
}
