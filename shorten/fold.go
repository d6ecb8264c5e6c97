package shorten

import "retrace/api"

// foldOnce replaces patterns where they come up while the instructions are laid one behind the other. Others may come to stand behind its back, where the jump is gone that named one of their instructions. That not always the pattern of the least instruction comes first changes nothing of what is left in the end: no two patterns share an instruction, and where one is replaced all the others go on standing.
func foldOnce(b *body) bool {
	l := laying{body: b, entered: enteredIn(b), laid: make([]int, 0, len(b.instrs))}
	for at := range b.instrs {
		l.lay(at)
	}
	next := 0 // of those that stay
	return b.takeOut(func(at int) bool {
		stays := next < len(l.laid) && l.laid[next] == at
		if stays {
			next++
		}
		return !stays
	})
}

// enteredIn tells, by number, where a jump leads or a function begins: no pattern goes over such a place. There is room for what may stand behind all instructions.
func enteredIn(b *body) []bool {
	entered := make([]bool, len(b.instrs)+1)
	for _, in := range b.instrs {
		if names(in) && b.has(in.A) {
			entered[in.A] = true
		}
	}
	for _, start := range b.starts {
		entered[start] = true
	}
	return entered
}

// laying is the instructions that were laid so far and still stand.
type laying struct {
	*body
	entered []bool
	laid    []int // their numbers
}

// lay lays the next instruction behind the others, and replaces the patterns that come up by it.
func (l *laying) lay(at int) {
	l.laid = append(l.laid, at)
	for l.replaced(at + 1) {
	}
}

// replaced tells whether a pattern stood at the end; next is the number of what comes behind it.
func (l *laying) replaced(next int) bool {
	last := len(l.laid) - 1
	if last < 1 || l.entered[l.laid[last]] {
		return false
	}
	first := last - 1
	become, in := two(l.laidAt(first), l.laidAt(last))
	if become == itself && last > 1 && !l.entered[l.laid[first]] {
		first--
		become, in = three(l.laidAt(first), l.laidAt(first+1), l.laidAt(last))
	}
	switch become {
	case itself:
		return false
	case nothing:
		// What led to the first one leads to what comes next.
		l.entered[next] = l.entered[next] || l.entered[l.laid[first]]
		l.laid = l.laid[:first]
	case another:
		l.instrs[l.laid[first]] = in
		l.laid = l.laid[:first+1]
	}
	return true
}

func (l *laying) laidAt(place int) api.Instr {
	return l.instrs[l.laid[place]]
}
