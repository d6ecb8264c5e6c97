package points

import (
	"retrace/api"
	"retrace/cond"
	"retrace/source"
)

// moment is an event, the program that it is of, and what can be named behind it.
type moment struct {
	text   string
	nodes  []api.Node
	event  api.Event
	vars   []api.Shown
	arrays [][]api.Value

	// The text is read for its line once, however many points there are, and not at all without one that asks.
	placed bool
	line   int
}

// meets tells whether a point is on and the event meets it.
func (m *moment) meets(p api.Point) bool {
	return !p.Off && m.isAt(p) && cond.Holds(p.Cond, m.vars, m.arrays)
}

// isAt tells whether the event is one that the point waits for, whatever its condition says.
func (m *moment) isAt(p api.Point) bool {
	switch p.Kind {
	case api.PtLine:
		return m.event.Kind == api.EvStmt && m.lineOfNode() == p.Line
	case api.PtFunc:
		return m.begun() == p.Name
	case api.PtWatch:
		changes := m.event.Kind == api.EvSet || m.event.Kind == api.EvTouch
		return changes && m.event.Name == p.Name
	}
	return false
}

// lineOfNode is the line on which the event's node begins, 0 if there is no such node or place.
func (m *moment) lineOfNode() int {
	if m.placed {
		return m.line
	}
	m.placed = true
	if 0 <= m.event.Node && m.event.Node < len(m.nodes) {
		place, _ := source.Where(m.text, m.nodes[m.event.Node].At)
		m.line = place.Line
	}
	return m.line
}

// begun is the name of the function that has begun with the event, all its parameters being set by then; "", which is no point's name, if none has.
func (m *moment) begun() string {
	n := m.event.Node
	if m.isKind(n+1, api.KParam) {
		return ""
	}
	switch {
	case m.event.Kind == api.EvCall && m.isKind(n, api.KFunc):
		return m.event.Name
	case m.event.Kind == api.EvSet && m.isKind(n, api.KParam):
		return m.functionAhead(n)
	}
	return ""
}

// functionAhead is the name of the last function among the nodes ahead of one, "" if there is none.
func (m *moment) functionAhead(n int) string {
	for n--; n >= 0; n-- {
		if m.nodes[n].Kind == api.KFunc {
			return m.nodes[n].Name
		}
	}
	return ""
}

// isKind tells whether there is a node of that number, and of that kind.
func (m *moment) isKind(n int, kind api.Kind) bool {
	return 0 <= n && n < len(m.nodes) && m.nodes[n].Kind == kind
}
