package vm

import (
	"bytes"
	"encoding/binary"
	"fmt"
	"slices"
	"strings"

	"retrace/api"
	"retrace/code"
	"retrace/value"
)

// This file says the chapter's words a second time, by other means: a state is a value, a step makes a new one of a copy, and what traps throws the copy away. The arrays are lists of their own, not those of package cells.

func i(n int64) api.Value { return api.Value{Kind: api.ValInt, Int: n} }

func b(n int64) api.Value { return api.Value{Kind: api.ValBool, Int: n} }

func s(text string) api.Value { return api.Value{Kind: api.ValText, Text: text} }

func r(n int64) api.Value { return api.Value{Kind: api.ValRef, Int: n} }

type array struct {
	kind     api.ValueKind
	elements []api.Value
}

type call struct {
	f, place     int
	slots, stack []api.Value
}

type state struct {
	c       api.Code
	input   []int64
	l       api.Limits
	outcome api.Outcome
	steps   uint64
	read    int
	frames  []call
	output  string
	arrays  []array // from the array 1 on
}

func begun(c api.Code, input []int64, l api.Limits) (state, api.Errno) {
	if len(input) > 1000 || l.Depth < 1 || l.Depth > 1000 || l.Cells < 0 || l.Cells > 100000 {
		return state{}, api.ErrArg
	}
	if errno := code.Valid(c); errno != api.OK {
		return state{}, errno
	}
	if main := c.Entrys[c.Main]; main.Params != 0 || main.Result != 0 {
		return state{}, api.ErrStuck
	}
	st := state{c: c, input: input, l: l}
	st.frames = []call{st.begin(c.Main, nil)}
	return st, api.OK
}

func (st state) begin(f int, arguments []api.Value) call {
	e := st.c.Entrys[f]
	slots := slices.Clone(arguments)
	for _, sort := range e.Sorts[len(arguments):] {
		switch sort {
		case 1:
			slots = append(slots, i(0))
		case 2:
			slots = append(slots, b(0))
		case 3:
			slots = append(slots, s(""))
		default:
			slots = append(slots, r(0))
		}
	}
	return call{f: f, place: e.Start, slots: slots}
}

func (st state) copy() state {
	st.frames = slices.Clone(st.frames)
	for n := range st.frames {
		st.frames[n].slots, st.frames[n].stack = slices.Clone(st.frames[n].slots), slices.Clone(st.frames[n].stack)
	}
	st.arrays = slices.Clone(st.arrays)
	for n := range st.arrays {
		st.arrays[n].elements = slices.Clone(st.arrays[n].elements)
	}
	return st
}

func (st state) cells() int64 {
	sum := 0
	for _, a := range st.arrays {
		sum += len(a.elements) + 1
	}
	return int64(sum)
}

// mayBe tells whether a value may be and is of one of the four kinds; a reference, if there is that array.
func (st state) mayBe(v api.Value) bool {
	return v == i(v.Int) || v == b(0) || v == b(1) || v == s(v.Text) && len(v.Text) < 257 || v == r(v.Int) && v.Int > -1 && v.Int < int64(len(st.arrays))+1
}

func (st state) fits(v api.Value, sort api.Sort) bool {
	kinds := map[api.Sort]api.ValueKind{1: api.ValInt, 2: api.ValBool, 3: api.ValText}
	kind, plain := kinds[sort]
	if !plain {
		kind = api.ValRef
	}
	return v.Kind == kind && st.mayBe(v)
}

// piece is the numbers of the first instruction of a function and of the one behind its last.
func (st state) piece(f int) (int, int) {
	starts := []int{}
	for _, e := range st.c.Entrys {
		starts = append(starts, e.Start)
	}
	starts = append(starts, len(st.c.Instrs))
	return starts[f], starts[f+1]
}

// yield is what a step answers.
type yield struct {
	api.Yield
	yields bool
}

func (st state) step() (next state, y yield) {
	if st.outcome != (api.Outcome{}) {
		return st, yield{}
	}
	if st.steps != 1<<62 {
		st.steps++
	}
	next = st.copy()
	defer func() {
		switch cause := recover().(type) {
		case nil:
		case api.Trap:
			next, y = st, yield{}
			next.outcome = api.Outcome{Phase: api.Trapped, Trap: cause}
		default:
			panic(cause)
		}
	}()
	y = next.perform()
	return next, y
}

func traps(trap api.Trap, holds bool) {
	if holds {
		panic(trap)
	}
}

func stuck(holds bool) { traps(api.TrapStuck, holds) }

func (c *call) push(v api.Value) {
	stuck(len(c.stack) >= 400)
	c.stack = append(c.stack, v)
}

func (c *call) pop() api.Value {
	stuck(len(c.stack) == 0)
	v := c.stack[len(c.stack)-1]
	c.stack = c.stack[:len(c.stack)-1]
	return v
}

// give pushes what an operation gives, or traps as it does.
func (c *call) give(v api.Value, trap api.Trap) {
	traps(trap, trap != 0)
	c.push(v)
}

// off takes the last n values off, the lowest first.
func (c *call) off(n int) []api.Value {
	stuck(len(c.stack) < n)
	taken := slices.Clone(c.stack[len(c.stack)-n:])
	c.stack = c.stack[:len(c.stack)-n]
	return taken
}

var words = strings.Fields("nop int bool text load store pop un bin jump false call ret done new get put len str print read emit show tell")

// perform does the next instruction on a state that may be thrown away.
func (st *state) perform() yield {
	now := &st.frames[len(st.frames)-1]
	e := st.c.Entrys[now.f]
	first, end := st.piece(now.f)
	stuck(now.place < first || now.place >= end)
	in := st.c.Instrs[now.place]
	now.place++
	jump := func() {
		stuck(in.A < int64(first) || in.A >= int64(end))
		now.place = int(in.A)
	}
	switch word := words[in.Op]; word {
	case "int":
		now.push(i(in.A))
	case "bool":
		now.push(b(in.A))
	case "text":
		stuck(in.A >= int64(len(st.c.Texts)))
		now.push(s(st.c.Texts[in.A]))
	case "load":
		stuck(in.A >= int64(len(e.Sorts)))
		now.push(now.slots[in.A])
	case "store":
		v := now.pop()
		stuck(in.A >= int64(len(e.Sorts)))
		stuck(!st.fits(v, e.Sorts[in.A]))
		now.slots[in.A] = v
	case "pop":
		now.pop()
	case "un":
		now.give(value.Unary(api.Op(in.A), now.pop()))
	case "bin":
		second := now.pop()
		now.give(value.Binary(api.Op(in.A), now.pop(), second))
	case "jump":
		jump()
	case "false":
		v := now.pop()
		stuck(v != b(0) && v != b(1))
		if v == b(0) {
			jump()
		}
	case "call", "ret", "done":
		st.calling(word, in, now, e)
	case "new", "get", "put", "len":
		st.arraying(word, in, now)
	case "str":
		v := now.pop()
		stuck(v.Kind == api.ValRef)
		now.push(s(value.Str(v)))
	case "print":
		var told []string
		for _, v := range now.off(int(in.A)) {
			stuck(v.Kind == api.ValRef)
			told = append(told, value.Str(v))
		}
		st.output += strings.Join(told, " ") + "\n"
	case "read":
		traps(api.TrapInput, st.read == len(st.input))
		now.push(i(st.input[st.read]))
		st.read++
	case "emit":
		return yield{api.Yield{Hook: int(in.A)}, true}
	case "show":
		stuck(in.B >= int64(len(e.Sorts)))
		return yield{api.Yield{Hook: int(in.A), Has: true, Value: now.slots[in.B]}, true}
	case "tell":
		stuck(len(now.stack) == 0)
		return yield{api.Yield{Hook: int(in.A), Has: true, Value: now.stack[len(now.stack)-1]}, true}
	}
	return yield{}
}

func (st *state) calling(word string, in api.Instr, now *call, e api.Entry) {
	last := len(st.frames) - 1
	switch word {
	case "call":
		stuck(in.A >= int64(len(st.c.Entrys)))
		callee := st.c.Entrys[in.A]
		arguments := now.off(callee.Params)
		for n, v := range arguments {
			stuck(!st.fits(v, callee.Sorts[n]))
		}
		traps(api.TrapDepth, len(st.frames) == st.l.Depth)
		st.frames = append(st.frames, st.begin(int(in.A), arguments))
	case "ret":
		v := now.pop()
		stuck(e.Result == 0 || last == 0)
		stuck(!st.fits(v, e.Result))
		st.frames = st.frames[:last]
		st.frames[last-1].push(v)
	case "done":
		stuck(e.Result != 0)
		st.frames = st.frames[:last]
		if last == 0 {
			st.outcome.Phase = api.Ended
		}
	}
}

// list is the array that a reference means.
func (st *state) list(v api.Value) array {
	stuck(v.Kind != api.ValRef || !st.mayBe(v))
	return append([]array{{}}, st.arrays...)[v.Int]
}

func (st *state) arraying(word string, in api.Instr, now *call) {
	switch word {
	case "new":
		v := now.pop()
		stuck(v.Kind != api.ValInt)
		traps(api.TrapIndex, v.Int < 0)
		traps(api.TrapHeap, v.Int > 100000 || st.cells()+v.Int+1 > int64(st.l.Cells))
		zero := st.zero(api.Sort(in.A))
		st.arrays = append(st.arrays, array{zero.Kind, slices.Repeat([]api.Value{zero}, int(v.Int))})
		now.push(r(int64(len(st.arrays))))
	case "get":
		index, of := now.pop(), now.pop()
		if of.Kind == api.ValText {
			now.give(value.At(of, index))
			return
		}
		stuck(of.Kind != api.ValRef || index.Kind != api.ValInt)
		list := st.list(of).elements
		traps(api.TrapIndex, index.Int < 0 || index.Int >= int64(len(list)))
		now.push(list[index.Int])
	case "put":
		v, index, of := now.pop(), now.pop(), now.pop()
		stuck(index.Kind != api.ValInt)
		list := st.list(of)
		traps(api.TrapIndex, index.Int < 0 || index.Int >= int64(len(list.elements)))
		stuck(v.Kind != list.kind || !st.mayBe(v))
		list.elements[index.Int] = v
	case "len":
		of := now.pop()
		if of.Kind == api.ValText {
			now.push(i(int64(len(of.Text))))
			return
		}
		now.push(i(int64(len(st.list(of).elements))))
	}
}

// zero is what a slot, or an element, of a sort begins with.
func (st state) zero(sort api.Sort) api.Value {
	for _, v := range []api.Value{i(0), b(0), s("")} {
		if st.fits(v, sort) {
			return v
		}
	}
	return r(0)
}

func (st state) result() api.Run {
	run := api.Run{Outcome: st.outcome, Output: st.output, Input: st.read, Steps: int(st.steps), Arrays: [][]api.Value{nil}}
	for _, a := range st.arrays {
		run.Arrays = append(run.Arrays, a.elements)
	}
	return run
}

// laid writes each of the parts: numbers by their types, texts and values as they are laid.
func laid(out *bytes.Buffer, parts ...any) {
	for _, part := range parts {
		switch part := part.(type) {
		case string:
			out.WriteString(part)
		case api.Value:
			laid(out, byte(part.Kind))
			bare(out, part)
		case []api.Value:
			for _, v := range part {
				laid(out, v)
			}
		default:
			if err := binary.Write(out, binary.BigEndian, part); err != nil {
				panic(err)
			}
		}
	}
}

// bare writes a value without its kind.
func bare(out *bytes.Buffer, v api.Value) {
	switch v.Kind {
	case api.ValBool:
		laid(out, byte(v.Int))
	case api.ValText:
		laid(out, uint16(len(v.Text)), v.Text)
	default:
		laid(out, v.Int)
	}
}

func (st state) save() string {
	var out, heap bytes.Buffer
	laid(&out, "V", byte(st.outcome.Phase), byte(st.outcome.Trap), st.steps, uint64(st.read), uint32(len(st.frames)))
	for _, f := range st.frames {
		laid(&out, byte(f.f), uint32(f.place), f.slots, uint16(len(f.stack)), f.stack)
	}
	laid(&heap, "H", uint64(len(st.arrays)))
	for _, a := range st.arrays {
		laid(&heap, byte(a.kind), uint64(len(a.elements)))
		for _, v := range a.elements {
			bare(&heap, v)
		}
	}
	laid(&out, uint64(len(st.output)), st.output, uint64(heap.Len()), heap.String())
	return out.String()
}

// bytesLeft is what is still to be read; what cannot be read is given up by panic.
type bytesLeft struct{ *bytes.Reader }

func refused(holds bool) {
	if holds {
		panic(api.ErrSave)
	}
}

// number reads an unsigned one.
func (left bytesLeft) number(size int) uint64 {
	whole := [8]byte{}
	refused(left.Len() < size)
	left.Read(whole[8-size:])
	return binary.BigEndian.Uint64(whole[:])
}

func (left bytesLeft) text(size uint64) string {
	refused(uint64(left.Len()) < size)
	text := make([]byte, size)
	left.Read(text)
	return string(text)
}

func (left bytesLeft) bare(kind api.ValueKind) api.Value {
	switch kind {
	case api.ValInt:
		return i(int64(left.number(8)))
	case api.ValBool:
		return b(int64(left.number(1)))
	case api.ValText:
		return s(left.text(left.number(2)))
	case api.ValRef:
		return r(int64(left.number(8)))
	}
	panic(api.ErrSave)
}

func (left bytesLeft) value() api.Value {
	return left.bare(api.ValueKind(left.number(1)))
}

// loaded is the state that may be whose bytes these are.
func loaded(c api.Code, input []int64, l api.Limits, text string) (st state, errno api.Errno) {
	if st, errno = begun(c, input, l); errno != api.OK {
		return state{}, errno
	}
	defer func() {
		switch cause := recover().(type) {
		case nil:
		case api.Errno:
			st, errno = state{}, cause
		default:
			panic(cause)
		}
	}()
	left := bytesLeft{bytes.NewReader([]byte(text))}
	refused(left.number(1) != 0x56)
	st.outcome = api.Outcome{Phase: api.Phase(left.number(1)), Trap: api.Trap(left.number(1))}
	running, ended := st.outcome == api.Outcome{}, st.outcome == api.Outcome{Phase: api.Ended}
	refused(!running && !ended && !(st.outcome.Phase == api.Trapped && st.outcome.Trap >= 1 && st.outcome.Trap <= 7))
	st.steps = left.number(8)
	refused(st.steps > 1<<62)
	read := left.number(8)
	refused(read > uint64(len(input)))
	st.read = int(read)
	frames := left.number(4)
	refused(frames > uint64(l.Depth) || ended != (frames == 0))
	st.frames = nil
	for range frames {
		st.frames = append(st.frames, left.call(st))
	}
	refused(!ended && st.frames[0].f != c.Main)
	st.output = left.text(left.number(8))
	heap := bytesLeft{bytes.NewReader([]byte(left.text(left.number(8))))}
	refused(left.Len() > 0)
	st.heaped(heap)
	for _, f := range st.frames {
		for n, v := range f.slots {
			refused(!st.fits(v, c.Entrys[f.f].Sorts[n]))
		}
		for _, v := range f.stack {
			refused(!st.mayBe(v))
		}
	}
	return st, api.OK
}

func (left bytesLeft) call(st state) call {
	function := left.number(1)
	refused(function >= uint64(len(st.c.Entrys)))
	f := call{f: int(function), place: int(left.number(4))}
	first, end := st.piece(f.f)
	refused(f.place < first || f.place > end)
	for range st.c.Entrys[f.f].Sorts {
		f.slots = append(f.slots, left.value())
	}
	height := left.number(2)
	refused(height > 400)
	for range height {
		f.stack = append(f.stack, left.value())
	}
	return f
}

// heaped reads the arrays.
func (st *state) heaped(left bytesLeft) {
	refused(left.number(1) != 0x48)
	for range left.number(8) {
		kind, length := api.ValueKind(left.number(1)), left.number(8)
		refused(kind < 1 || kind > 4 || length > 100000)
		a := array{kind: kind}
		for range length {
			a.elements = append(a.elements, left.bare(kind))
		}
		st.arrays = append(st.arrays, a)
		refused(st.cells() > int64(st.l.Cells))
	}
	refused(left.Len() > 0)
	for _, a := range st.arrays {
		for _, v := range a.elements {
			refused(!st.mayBe(v))
		}
	}
}

// told is a code as text, on one line, for what a test says.
func told(c api.Code) string {
	text, errno := code.Print(c)
	if errno != api.OK {
		return fmt.Sprint(c)
	}
	return strings.ReplaceAll(strings.TrimSpace(text), "\n", ";")
}
