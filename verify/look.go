package verify

import (
	"slices"

	"retrace/api"
)

// look is an instruction that is looked at, and its stack: first the one ahead of it, in the end the one behind it.
type look struct {
	*piece
	at    int
	in    api.Instr
	stack stack
}

// named gives up what names a text, a slot or a function that is not there.
func (l *look) named() {
	there := true
	switch l.in.Op {
	case api.InText:
		there = l.in.A < int64(len(l.code.Texts))
	case api.InLoad, api.InStore:
		there = l.in.A < int64(len(l.entry.Sorts))
	case api.InShow:
		there = l.in.B < int64(len(l.entry.Sorts))
	case api.InCall:
		there = l.in.A < int64(len(l.code.Entrys))
	}
	if !there {
		refuse(api.ErrSlot, l.at)
	}
}

// effect takes off the stack what the instruction takes, and lays on it what it gives.
func (l *look) effect() {
	switch l.in.Op {
	case api.InInt, api.InRead:
		l.give(intSort)
	case api.InBool:
		l.give(boolSort)
	case api.InText:
		l.give(textSort)
	case api.InLoad:
		l.give(l.entry.Sorts[l.in.A])
	case api.InStore:
		l.takeJust(l.entry.Sorts[l.in.A])
	case api.InPop:
		l.take(1)
	case api.InUn:
		l.unary(api.Op(l.in.A))
	case api.InBin:
		l.binary(api.Op(l.in.A))
	case api.InFalse:
		l.takeJust(boolSort)
	case api.InCall:
		l.call(l.code.Entrys[l.in.A])
	case api.InRet:
		// A function without a result has the Result 0, which is no value's sort.
		l.takeJust(l.entry.Result)
	case api.InDone:
		l.want(l.entry.Result == 0)
	case api.InNew:
		l.takeJust(intSort)
		l.give(arrayOf(api.Sort(l.in.A)))
	case api.InGet:
		taken := l.take(2)
		l.want(hasLength(taken[0]) && taken[1] == intSort)
		l.give(elementOf(taken[0]))
	case api.InPut:
		taken := l.take(3)
		l.want(isArray(taken[0]) && taken[1] == intSort && taken[2] == elementOf(taken[0]))
	case api.InLen:
		l.want(hasLength(l.take(1)[0]))
		l.give(intSort)
	case api.InStr:
		l.want(isPlain(l.take(1)[0]))
		l.give(textSort)
	case api.InPrint:
		for _, sort := range l.take(int(l.in.A)) {
			l.want(isPlain(sort))
		}
	case api.InTell:
		l.give(l.take(1)[0])
	}
}

func (l *look) unary(op api.Op) {
	sort := intSort
	if op == api.OpNot {
		sort = boolSort
	}
	l.takeJust(sort)
	l.give(sort)
}

func (l *look) binary(op api.Op) {
	taken := l.take(2)
	l.want(taken[0] == taken[1] && areOperands(op, taken[0]))
	if op <= api.OpMod {
		l.give(taken[0])
		return
	}
	l.give(boolSort)
}

func (l *look) call(callee api.Entry) {
	l.takeJust(callee.Sorts[:callee.Params]...)
	if callee.Result != 0 {
		l.give(callee.Result)
	}
}

// take takes the topmost values off, the topmost last.
func (l *look) take(count int) stack {
	if len(l.stack) < count {
		refuse(api.ErrStack, l.at)
	}
	left := len(l.stack) - count
	taken := l.stack[left:]
	l.stack = l.stack[:left]
	return taken
}

// takeJust takes off values of these sorts alone.
func (l *look) takeJust(sorts ...api.Sort) {
	l.want(slices.Equal(l.take(len(sorts)), sorts))
}

// want gives up what takes values of other sorts.
func (l *look) want(fits bool) {
	if !fits {
		refuse(api.ErrKind, l.at)
	}
}

func (l *look) give(sort api.Sort) {
	if len(l.stack) == api.MaxStack {
		refuse(api.ErrStack, l.at)
	}
	l.stack = l.stack.with(sort)
}

// followers hands the stack behind the instruction on to all that may come next.
func (l *look) followers() {
	switch l.in.Op {
	case api.InRet, api.InDone:
	case api.InJump:
		l.follow(int(l.in.A), api.ErrJump)
	case api.InFalse:
		l.follow(l.at+1, api.ErrEnd)
		l.follow(int(l.in.A), api.ErrJump)
	default:
		l.follow(l.at+1, api.ErrEnd)
	}
}

// follow hands the stack on to a follower; outside is the error of one that is not in the piece.
func (l *look) follow(to int, outside api.Errno) {
	if !l.has(to) {
		refuse(outside, l.at)
	}
	known := l.known[to]
	switch {
	case known == nil:
		l.learn(to, l.stack)
	case len(known) != len(l.stack):
		refuse(api.ErrStack, l.at)
	case !slices.Equal(known, l.stack):
		refuse(api.ErrKind, l.at)
	}
}
