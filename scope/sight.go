package scope

import (
	"slices"

	"retrace/api"
)

// sight goes along the nodes of a tree, each in its turn, and knows what is seen at the one that it has come to.
type sight struct {
	nodes  []api.Node
	means  map[string][]int // by name: the nodes that declare the variables seen, innermost last
	blocks []block          // that the node stands in, innermost last
	loops  []loop           // in whose blocks the node stands, innermost last
	labels map[string]int   // the number of each label that was met
	next   block            // that begins next, as far as it is known ahead of its node
	fresh  int              // the KVar in whose subtree the node stands, 0 if in none
}

// block is a block with the nodes that declare its variables, so far.
type block struct {
	end  int // the node behind its subtree
	loop int // whose own block it is, 0 if none's
	vars []int
}

// loop is a loop with the number of its label: where many are around, a search by labels' texts would take long.
type loop struct {
	node  int
	label int
}

// unlabelled is the number of the empty label.
const unlabelled = 0

func newSight(nodes []api.Node) sight {
	return sight{nodes: nodes, means: map[string][]int{}, labels: map[string]int{"": unlabelled}}
}

// pass comes to a node: what has ended ahead of it is done with.
func (s *sight) pass(n int) {
	// A variable comes in sight ahead of its block's end, if both are at the same node: it is that block's.
	if s.fresh != 0 && s.behind(s.fresh) == n {
		inner := s.inner()
		inner.vars = append(inner.vars, s.fresh)
		s.show(s.fresh)
		s.fresh = 0
	}
	for len(s.blocks) > 0 && s.inner().end == n {
		s.leave()
	}
}

// open begins what begins with a node. No block stands between a function or a loop and its own block, so what these have for it is kept for the next one that comes.
func (s *sight) open(n int) {
	switch s.nodes[n].Kind {
	case api.KParam:
		s.next.vars = append(s.next.vars, n)
	case api.KWhile:
		s.next.loop = n
	case api.KFor:
		s.next.loop = n
		s.next.vars = append(s.next.vars, n)
	case api.KVar:
		s.fresh = n
	case api.KBlock:
		s.enter(n)
	}
}

func (s *sight) enter(n int) {
	begun := s.next
	begun.end = s.behind(n)
	s.next = block{}
	s.blocks = append(s.blocks, begun)
	for _, v := range begun.vars {
		s.show(v)
	}
	if begun.loop != 0 {
		s.loops = append(s.loops, loop{node: begun.loop, label: s.labelNumber(begun.loop)})
	}
}

func (s *sight) leave() {
	ended := *s.inner()
	s.blocks = s.blocks[:len(s.blocks)-1]
	for _, v := range ended.vars {
		s.hide(v)
	}
	if ended.loop != 0 {
		s.loops = s.loops[:len(s.loops)-1]
	}
}

func (s *sight) show(v int) {
	name := s.nodes[v].Name
	s.means[name] = append(s.means[name], v)
}

// hide takes a variable of the innermost block out of sight: no other one of its name is behind it.
func (s *sight) hide(v int) {
	name := s.nodes[v].Name
	outer := s.means[name]
	outer = outer[:len(outer)-1]
	if len(outer) == 0 {
		delete(s.means, name)
	} else {
		s.means[name] = outer
	}
}

// meaning finds the node that declares the variable that a name means here.
func (s *sight) meaning(name string) (v int, seen bool) {
	vars, seen := s.means[name]
	if !seen {
		return 0, false
	}
	return vars[len(vars)-1], true
}

// labelNumber gives a loop's label a number, if it has none yet.
func (s *sight) labelNumber(n int) int {
	label := s.nodes[n].Label
	number, met := s.labels[label]
	if !met {
		number = len(s.labels)
		s.labels[label] = number
	}
	return number
}

// loopAround finds the innermost loop around of that label; of any, if the label is empty.
func (s *sight) loopAround(label string) (n int, found bool) {
	wanted, met := s.labels[label]
	if !met {
		return 0, false
	}
outward:
	for _, around := range slices.Backward(s.loops) {
		if wanted != unlabelled && around.label != wanted {
			continue outward
		}
		return around.node, true
	}
	return 0, false
}

// declaresTwice tells whether the block of a parameter, or of a var, has a variable of its name already.
func (s *sight) declaresTwice(n int) bool {
	ahead := s.next.vars
	if s.nodes[n].Kind == api.KVar {
		ahead = s.inner().vars
	}
	return slices.ContainsFunc(ahead, func(v int) bool {
		return s.nodes[v].Name == s.nodes[n].Name
	})
}

func (s *sight) inner() *block {
	return &s.blocks[len(s.blocks)-1]
}

func (s *sight) behind(n int) int {
	return n + s.nodes[n].Size
}
