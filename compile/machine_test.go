package compile

import (
	"strings"

	"retrace/api"
	"retrace/cells"
	"retrace/value"
)

// machine runs safe codes, so that what they do can be held against what their programs mean.
type machine struct {
	code    api.Code
	input   []int64
	limits  api.Limits
	heap    *cells.Heap
	frames  []*frame
	read    int
	output  strings.Builder
	steps   int
	outcome api.Outcome
	yields  []api.Yield
}

type frame struct {
	f     int
	at    int
	slots []api.Value
	stack []api.Value
}

func kindOf(sort api.Sort) api.ValueKind {
	return min(api.ValueKind(sort), api.ValRef)
}

func start(made api.Code, input []int64, limits api.Limits) *machine {
	m := &machine{code: made, input: input, limits: limits, heap: cells.New(limits.Cells)}
	m.begin(made.Main, nil)
	return m
}

func (m *machine) begin(f int, arguments []api.Value) {
	entry := m.code.Entrys[f]
	now := &frame{f: f, at: entry.Start}
	for i, sort := range entry.Sorts {
		if i < len(arguments) {
			now.slots = append(now.slots, arguments[i])
		} else {
			now.slots = append(now.slots, value.Zero(kindOf(sort)))
		}
	}
	m.frames = append(m.frames, now)
}

// run goes on till so many yields were, or so many steps, or it ends.
func (m *machine) run(yields, steps int) {
	for m.outcome.Phase == api.Running && len(m.yields) < yields && m.steps < steps {
		m.steps++
		m.step()
	}
}

func (m *machine) trap(trap api.Trap) {
	m.outcome = api.Outcome{Phase: api.Trapped, Trap: trap}
}

func (m *machine) step() {
	now := m.frames[len(m.frames)-1]
	in := m.code.Instrs[now.at]
	now.at++
	pop := func() api.Value {
		last := len(now.stack) - 1
		v := now.stack[last]
		now.stack = now.stack[:last]
		return v
	}
	push := func(v api.Value) { now.stack = append(now.stack, v) }
	pushOr := func(v api.Value, trap api.Trap) {
		if trap != api.NoTrap {
			m.trap(trap)
			return
		}
		push(v)
	}
	number := func(n int64) api.Value { return api.Value{Kind: api.ValInt, Int: n} }
	switch in.Op {
	case api.InInt:
		push(number(in.A))
	case api.InBool:
		push(api.Value{Kind: api.ValBool, Int: in.A})
	case api.InText:
		push(api.Value{Kind: api.ValText, Text: m.code.Texts[in.A]})
	case api.InLoad:
		push(now.slots[in.A])
	case api.InStore:
		now.slots[in.A] = pop()
	case api.InPop:
		pop()
	case api.InUn:
		pushOr(value.Unary(api.Op(in.A), pop()))
	case api.InBin:
		second, first := pop(), pop()
		pushOr(value.Binary(api.Op(in.A), first, second))
	case api.InJump:
		now.at = int(in.A)
	case api.InFalse:
		if pop().Int == 0 {
			now.at = int(in.A)
		}
	case api.InCall:
		if len(m.frames) == m.limits.Depth {
			m.trap(api.TrapDepth)
			return
		}
		first := len(now.stack) - m.code.Entrys[in.A].Params
		arguments := now.stack[first:]
		now.stack = now.stack[:first]
		m.begin(int(in.A), arguments)
	case api.InRet:
		result := pop()
		m.frames = m.frames[:len(m.frames)-1]
		below := m.frames[len(m.frames)-1]
		below.stack = append(below.stack, result)
	case api.InDone:
		m.frames = m.frames[:len(m.frames)-1]
		if len(m.frames) == 0 {
			m.outcome.Phase = api.Ended
		}
	case api.InNew:
		pushOr(m.heap.Make(kindOf(api.Sort(in.A)), pop().Int))
	case api.InGet:
		index, of := pop(), pop()
		if of.Kind == api.ValText {
			pushOr(value.At(of, index))
		} else {
			pushOr(m.heap.Get(of, index.Int))
		}
	case api.InPut:
		v, index, of := pop(), pop(), pop()
		if trap := m.heap.Put(of, index.Int, v); trap != api.NoTrap {
			m.trap(trap)
		}
	case api.InLen:
		of := pop()
		if of.Kind == api.ValText {
			push(number(int64(len(of.Text))))
		} else {
			n, trap := m.heap.Len(of)
			pushOr(number(n), trap)
		}
	case api.InStr:
		push(api.Value{Kind: api.ValText, Text: value.Str(pop())})
	case api.InPrint:
		first := len(now.stack) - int(in.A)
		var texts []string
		for _, v := range now.stack[first:] {
			texts = append(texts, value.Str(v))
		}
		now.stack = now.stack[:first]
		m.output.WriteString(strings.Join(texts, " ") + "\n")
	case api.InRead:
		if m.read == len(m.input) {
			m.trap(api.TrapInput)
			return
		}
		push(number(m.input[m.read]))
		m.read++
	case api.InEmit:
		m.yields = append(m.yields, api.Yield{Hook: int(in.A)})
	case api.InShow:
		m.yields = append(m.yields, api.Yield{Hook: int(in.A), Has: true, Value: now.slots[in.B]})
	case api.InTell:
		m.yields = append(m.yields, api.Yield{Hook: int(in.A), Has: true, Value: now.stack[len(now.stack)-1]})
	}
}
