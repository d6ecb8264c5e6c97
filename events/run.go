package events

import (
	"iter"

	"retrace/api"
	"retrace/vm"
)

// Run runs a built program for at most so many instructions: its events with the rest of the run.
func Run(b Built, input []int64, l api.Limits, steps int) (api.Run, api.Errno) {
	m, errno := start(b, input, l, steps)
	if errno != api.OK {
		return api.Run{}, errno
	}
	var told []api.Event
	for event := range eventsOf(m, b.Table, steps) {
		told = append(told, event)
	}
	run := m.Result()
	run.Events = told
	return run, api.OK
}

// Marks tells, of such a run, how many instructions were done when each event came.
func Marks(b Built, input []int64, l api.Limits, steps int) ([]int, api.Errno) {
	m, errno := start(b, input, l, steps)
	if errno != api.OK {
		return nil, errno
	}
	var marks []int
	for _, mark := range eventsOf(m, b.Table, steps) {
		marks = append(marks, mark)
	}
	return marks, api.OK
}

// start makes the machine of a built program, if it may be run for so many instructions.
func start(b Built, input []int64, l api.Limits, steps int) (*vm.Machine, api.Errno) {
	if !isBuilt(b) {
		return nil, api.ErrArg
	}
	m, errno := vm.New(b.Code, input, l)
	if errno != api.OK {
		return nil, errno
	}
	if steps > api.MaxBudget {
		return nil, api.ErrSize
	}
	return m, api.OK
}

// eventsOf goes through the events of a machine up to so many instructions, each with the number that had been done when it came.
func eventsOf(m *vm.Machine, table []api.Hook, steps int) iter.Seq2[api.Event, int] {
	return func(yield func(api.Event, int) bool) {
		for {
			y, yields := m.Run(steps - m.Steps())
			if !yields {
				return
			}
			// No error: all yields of a built program have their rows.
			event, _ := Read(table, y)
			if !yield(event, m.Steps()) {
				return
			}
		}
	}
}
