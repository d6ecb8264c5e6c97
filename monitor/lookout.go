package monitor

import (
	"slices"
	"strings"

	"retrace/api"
	"retrace/points"
)

// lookout gives a function that tells the point of the position at which the engine stands, if it is given the event there. It holds as long as no point is changed.
func (m *Monitor) lookout() func(e api.Event) int {
	bare, conditions := m.bareTable()
	waiting := map[api.Hook]int{} // what bare tells of an event, by all of it that counts there
	return func(e api.Event) int {
		about := api.Hook{Kind: e.Kind, Node: e.Node, Name: e.Name}
		n, known := waiting[about]
		if !known {
			n = bare.Match(m.program, e, nil, nil)
			waiting[about] = n
		}
		// To tell the frames and the arrays costs much: that is done only where some point waits for the event.
		if n == 0 {
			return 0
		}
		frames := m.engine.Frames()
		return m.table.Match(m.program, e, frames, m.arraysFor(conditions, frames))
	}
}

// bareTable holds the points that are on without their conditions, which are told beside it; the points' numbers there mean nothing.
func (m *Monitor) bareTable() (bare *points.Table, conditions string) {
	bare = points.New()
	_, list := m.Points()
	for _, p := range list {
		if !p.Off {
			conditions += p.Cond + "\n"
			p.Cond = ""
			bare.Add(p)
		}
	}
	return bare, conditions
}

// arraysFor tells the arrays, if one of the conditions can name one over the first of the frames; else none.
func (m *Monitor) arraysFor(conditions string, frames []api.Frame) [][]api.Value {
	isNamed := func(v api.Shown) bool {
		return v.Value.Kind == api.ValRef && strings.Contains(conditions, v.Var.Name)
	}
	if len(frames) > 0 && slices.ContainsFunc(frames[0].Vars, isNamed) {
		return m.engine.Result().Arrays
	}
	return nil
}
