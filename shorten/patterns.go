package shorten

import (
	"retrace/api"
	"retrace/value"
)

// become is what comes of some instructions.
type become int

const (
	itself become = iota // they are no pattern
	nothing
	another // one instruction in the place of the first one
)

// two tells what two instructions become, and the instruction, if it is another.
func two(a, b api.Instr) (become, api.Instr) {
	switch {
	case isConstant(a) && b.Op == api.InUn:
		return computed(value.Unary(api.Op(b.A), constant(a)))
	case a.Op == api.InBool && b.Op == api.InFalse && a.A == 1:
		return nothing, api.Instr{}
	case a.Op == api.InBool && b.Op == api.InFalse:
		return another, api.Instr{Op: api.InJump, A: b.A}
	case givesOnly(a) && b.Op == api.InPop:
		return nothing, api.Instr{}
	case a.Op == api.InLoad && b.Op == api.InStore && a.A == b.A:
		return nothing, api.Instr{}
	}
	return itself, api.Instr{}
}

// three tells what three instructions become, and the instruction, if it is another.
func three(a, b, c api.Instr) (become, api.Instr) {
	if isConstant(a) && isConstant(b) && c.Op == api.InBin {
		return computed(value.Binary(api.Op(c.A), constant(a), constant(b)))
	}
	return itself, api.Instr{}
}

// computed is the constant of a value; what traps stays, as it has to trap in the run.
func computed(v api.Value, trap api.Trap) (become, api.Instr) {
	switch {
	case trap != api.NoTrap:
		return itself, api.Instr{}
	case v.Kind == api.ValBool:
		return another, api.Instr{Op: api.InBool, A: v.Int}
	}
	return another, api.Instr{Op: api.InInt, A: v.Int}
}

func isConstant(in api.Instr) bool {
	return in.Op == api.InInt || in.Op == api.InBool
}

// constant is the value of one.
func constant(in api.Instr) api.Value {
	if in.Op == api.InBool {
		return api.Value{Kind: api.ValBool, Int: in.A}
	}
	return api.Value{Kind: api.ValInt, Int: in.A}
}

// givesOnly tells whether an instruction puts a value on the stack and does nothing else.
func givesOnly(in api.Instr) bool {
	return isConstant(in) || in.Op == api.InText || in.Op == api.InLoad
}
