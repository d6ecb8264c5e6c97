package travel

import (
	"slices"
	"sort"

	"retrace/api"
	"retrace/events"
	"retrace/view"
	"retrace/vm"
)

// mostKept is how many states are kept at most, beside that of the beginning.
const mostKept = 64

// state is how view and machine are at a position, which the view's count tells.
type state struct {
	view.View
	machine vm.Machine
}

// state is the one in which the engine is, as memory of its own.
func (e *Engine) state() state {
	return state{View: *e.Clone(), machine: *e.machine.Clone()}
}

// next runs on to the next event, if it comes within so many instructions, and stands at it then.
func (e *Engine) next(budget int) (event api.Event, comes bool) {
	before := e.machine.Steps()
	yield, comes := e.machine.Run(budget)
	e.work += e.machine.Steps() - before
	if !comes {
		return api.Event{}, false
	}
	// No errors: every yield of a built program has its row, and its view takes what its run tells.
	event, _ = events.Read(e.table, yield)
	e.Take(event)
	if e.Count() > len(e.passed) {
		e.passed = append(e.passed, copiedEvent(event))
		e.keep()
	}
	return event, true
}

// keep keeps the state of a position that was reached for the first time, if it is one of those to be kept.
func (e *Engine) keep() {
	if e.gap == 0 || e.Count()%e.gap != 0 {
		return
	}
	if len(e.kept) < mostKept {
		e.kept = append(e.kept, e.state())
		return
	}
	// The new one would be the 65th: with the gap doubled it is none of those to be kept.
	e.gap *= 2
	e.kept = slices.DeleteFunc(e.kept, func(s state) bool { return s.Count()%e.gap != 0 })
}

// nearest is the last state that is not behind a position.
func (e *Engine) nearest(at int) *state {
	behind := sort.Search(len(e.kept), func(n int) bool { return e.kept[n].Count() > at })
	if behind == 0 {
		return &e.start
	}
	return &e.kept[behind-1]
}

// moveTo brings the engine to a position at which it has stood.
func (e *Engine) moveTo(at int) {
	from := e.nearest(at)
	e.View, e.machine, e.over = *from.Clone(), *from.machine.Clone(), false
	for runOn := e.onTo(at); runOn(); {
	}
}

// onTo gives a function that goes on by one event each time it is called, and tells whether it has, up to a position.
func (e *Engine) onTo(at int) func() bool {
	return func() bool {
		if e.Count() >= at {
			return false
		}
		_, comes := e.next(api.MaxBudget) // it came within so many the first time
		return comes
	}
}
