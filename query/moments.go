package query

import (
	"iter"
	"slices"

	"retrace/api"
	"retrace/view"
)

// frame is one call of a record.
type frame struct {
	number   int // the position of its EvCall, so that no two have the same
	function int
}

// variable is one of a frame.
type variable struct {
	frame int // the frame's number
	slot  int
}

// moment is an event of a record, with what can be asked about when it came.
type moment struct {
	at     int // the event's position
	event  api.Event
	frames []frame    // the innermost last; the one that the event ends is still there
	seen   *view.View // behind the event
}

// moments goes once through a record's events, as long as a view of no event takes them; ErrFold stands for the first one that it refuses.
func moments(p api.Program, r api.Record, seen *view.View) iter.Seq2[moment, api.Errno] {
	return func(yield func(moment, api.Errno) bool) {
		var frames []frame
		for n, e := range r.Events {
			if errno := seen.Take(e); errno != api.OK {
				yield(moment{}, errno)
				return
			}
			at := n + 1
			if e.Kind == api.EvCall {
				frames = append(frames, frame{number: at, function: p.Scoped.Owners[e.Node]})
			}
			if !yield(moment{at: at, event: e, frames: frames, seen: seen}, api.OK) {
				return
			}
			frames = frames[:seen.Depth()]
		}
	}
}

// own is the event's frame.
func (m moment) own() frame {
	return m.frames[len(m.frames)-1]
}

// sets tells whether the event sets a variable of that name: an EvSet that fits has just its variable's.
func (m moment) sets(name string) bool {
	return m.event.Kind == api.EvSet && m.event.Name == name
}

// shown is the variable of that name that is seen in the innermost frame behind the event; the zero one, which is no frame's, if there is none.
func (m moment) shown(name string) variable {
	depth := m.seen.Depth()
	if depth == 0 {
		return variable{}
	}
	vars := m.seen.Frames()[0].Vars
	n := slices.IndexFunc(vars, func(s api.Shown) bool { return s.Var.Name == name })
	if n < 0 {
		return variable{}
	}
	return variable{m.frames[depth-1].number, vars[n].Var.Slot}
}
