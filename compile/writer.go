package compile

import (
	"slices"
	"strings"

	"retrace/api"
)

// step writes something, or lays down steps that are to be done next.
type step func()

// row is the steps of one part of the program, as the chapter's table has them.
type row []step

// loop is where break and continue go to, as marks.
type loop struct {
	end, again int
}

// writer writes the instructions of one program, in the order of its nodes.
type writer struct {
	nodes   []api.Node
	scoped  api.Scoped
	instrs  []api.Instr // jumps name marks till they are aimed
	texts   []string
	numbers map[string]int // of the texts
	marks   []int          // the places of the marks
	loops   map[int]loop   // by node, of those that have begun
	hidden  int            // the next hidden slot of the function
	height  int            // how many values lie on the frame's stack
	todo    []step         // what is still to be done, the next one last: so a deep tree needs no deep calls
}

// function writes all of a function.
func (w *writer) function(f api.Func) {
	w.hidden = len(f.Vars)
	kids := w.kids(f.Node)
	body := kids[len(kids)-1]
	w.lay(slices.Concat(w.parts(w.kids(body)), w.close(f)))
	for len(w.todo) > 0 {
		last := len(w.todo) - 1
		next := w.todo[last]
		w.todo = w.todo[:last]
		next()
	}
}

// lay puts a row ahead of all that is still to be done.
func (w *writer) lay(r row) {
	for _, s := range slices.Backward(r) {
		w.todo = append(w.todo, s)
	}
}

// close ends a function: no way leads to the end of one that gives a value, but something has to stand there.
func (w *writer) close(f api.Func) row {
	if f.Result == "" {
		return row{w.put(api.InDone, 0, 0)}
	}
	itself := w.mark()
	return row{w.here(itself), w.jump(api.InJump, itself, 0)}
}

// part is the step that writes a node. Its row is asked for only when its turn comes, so that slots, marks and texts are given out by the order of the nodes.
func (w *writer) part(n int) step {
	return func() { w.lay(w.rowOf(n)) }
}

func (w *writer) parts(nodes []int) row {
	var r row
	for _, n := range nodes {
		r = append(r, w.part(n))
	}
	return r
}

// put is the step that writes an instruction, behind which so many values more, or fewer, lie on the stack.
func (w *writer) put(op api.Code8, a, change int) step {
	return w.write(api.Instr{Op: op, A: int64(a)}, change)
}

// write is the step for an instruction whose operands put does not take.
func (w *writer) write(in api.Instr, change int) step {
	return func() {
		w.height += change
		if w.height > api.MaxStack || len(w.instrs) == api.MaxInstrs {
			giveUp()
		}
		w.instrs = append(w.instrs, in)
	}
}

// jump is the step that writes a jump to a mark. Change is told of the next instruction's stack: what is jumped away with does not lie there.
func (w *writer) jump(op api.Code8, mark, change int) step {
	return w.put(op, mark, change)
}

// mark makes a mark, which has no place yet.
func (w *writer) mark() int {
	w.marks = append(w.marks, 0)
	return len(w.marks) - 1
}

// here is the step that makes the place of what comes next that of a mark.
func (w *writer) here(mark int) step {
	return func() { w.marks[mark] = len(w.instrs) }
}

// aim lets the jumps name places, when all of these are known.
func (w *writer) aim() {
	for at, in := range w.instrs {
		if in.Op == api.InJump || in.Op == api.InFalse {
			w.instrs[at].A = int64(w.marks[in.A])
		}
	}
}

// text tells a text's number in the pool.
func (w *writer) text(text string) int {
	number, known := w.numbers[text]
	if known {
		return number
	}
	if len(w.texts) == api.MaxTexts {
		giveUp()
	}
	number = len(w.texts)
	w.texts = append(w.texts, strings.Clone(text))
	w.numbers[text] = number
	return number
}

// kids are the numbers of a node's kids.
func (w *writer) kids(n int) []int {
	var kids []int
	for kid := n + 1; kid < n+w.nodes[n].Size; kid += w.nodes[kid].Size {
		kids = append(kids, kid)
	}
	return kids
}
