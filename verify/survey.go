package verify

import (
	"container/heap"

	"retrace/api"
	"retrace/code"
)

// survey tells the stack that is known of each instruction of a safe code; any other is given up.
func survey(c api.Code) []stack {
	if errno := code.Valid(c); errno != api.OK {
		refuse(errno, 0)
	}
	if main := c.Entrys[c.Main]; main.Params > 0 || main.Result != 0 {
		refuse(api.ErrKind, main.Start)
	}
	known := make([]stack, len(c.Instrs))
	for f, entry := range c.Entrys {
		p := piece{code: c, entry: entry, end: pieceEnd(c, f), known: known}
		p.survey()
	}
	return known
}

// pieceEnd tells the number behind the last instruction of a function.
func pieceEnd(c api.Code, f int) int {
	if f+1 < len(c.Entrys) {
		return c.Entrys[f+1].Start
	}
	return len(c.Instrs)
}

// piece is the instructions of one function, and what is known of them so far.
type piece struct {
	code  api.Code
	entry api.Entry
	end   int     // the number behind the last one
	known []stack // of all instructions of the code; nil, if none is
	open  places  // those of which a stack is known and that were not looked at yet
}

func (p *piece) survey() {
	p.learn(p.entry.Start, stack{})
	for len(p.open) > 0 {
		at := heap.Pop(&p.open).(int)
		l := look{piece: p, at: at, in: p.code.Instrs[at], stack: p.known[at]}
		l.named()
		l.effect()
		l.followers()
	}
}

// learn takes the first stack that is known of an instruction of the piece.
func (p *piece) learn(at int, s stack) {
	p.known[at] = s
	heap.Push(&p.open, at)
}

func (p *piece) has(at int) bool {
	return p.entry.Start <= at && at < p.end
}

// places is a heap of instructions' numbers: which is the least is asked after each one, and jumps lead far both ways.
type places []int

func (p places) Len() int           { return len(p) }
func (p places) Less(i, j int) bool { return p[i] < p[j] }
func (p places) Swap(i, j int)      { p[i], p[j] = p[j], p[i] }
func (p *places) Push(at any)       { *p = append(*p, at.(int)) }

func (p *places) Pop() any {
	last := len(*p) - 1
	at := (*p)[last]
	*p = (*p)[:last]
	return at
}
