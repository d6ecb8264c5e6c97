package query

import "retrace/api"

// shares are what the functions have of a run so far.
type shares struct {
	costs    []api.Cost
	standing []int // by function, how many frames of it there are
}

func newShares(functions int) *shares {
	s := &shares{costs: make([]api.Cost, functions), standing: make([]int, functions)}
	for f := range s.costs {
		s.costs[f].Func = f
	}
	return s
}

// add goes on by an event.
func (s *shares) add(m moment) {
	f := m.own().function
	switch m.event.Kind {
	case api.EvCall:
		s.standing[f]++
		s.costs[f].Calls++
	case api.EvReturn, api.EvLeave:
		s.standing[f]--
	case api.EvStmt:
		s.costs[f].Own++
		s.begin()
	}
}

// begin counts a statement for all functions that have a frame.
func (s *shares) begin() {
	for f, count := range s.standing {
		if count > 0 {
			s.costs[f].All++
		}
	}
}
