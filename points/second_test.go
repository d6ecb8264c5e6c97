package points

import (
	"regexp"
	"slices"
	"strings"

	"retrace/api"
	"retrace/cond"
	"retrace/parse"
)

// plain is a table as the chapter's words have it: every point that was ever added, the first one at 0.
type plain struct {
	points []api.Point
	gone   []bool
}

var word = regexp.MustCompile(`^[a-zA-Z][a-zA-Z0-9_]{0,23}$`)

const keywords = " fn var if else while for to break continue return print read true false int bool text new len str "

func isNamePlainly(text string) bool {
	return word.MatchString(text) && !strings.HasSuffix(text, "\n") && !strings.Contains(keywords, " "+text+" ")
}

func mayBePlainly(p api.Point) bool {
	byLine := p.Kind == 1 && p.Line > 0 && p.Name == ""
	byName := (p.Kind == 2 || p.Kind == 3) && p.Line == 0 && isNamePlainly(p.Name)
	return (byLine || byName) && len(p.Cond) <= 300
}

func (t *plain) has(n int) bool {
	return n >= 1 && n <= len(t.points) && !t.gone[n-1]
}

func (t *plain) numbers() []int {
	var list []int
	for n := 1; n <= len(t.points); n++ {
		if t.has(n) {
			list = append(list, n)
		}
	}
	return list
}

func (t *plain) add(p api.Point) (int, api.Errno) {
	if !mayBePlainly(p) {
		return 0, api.ErrArg
	}
	if p.Cond != "" {
		if _, problem := parse.Expr(p.Cond); problem != (api.Problem{}) {
			return 0, api.ErrExpr
		}
	}
	if len(t.numbers()) == 32 {
		return 0, api.ErrSize
	}
	t.points, t.gone = append(t.points, p), append(t.gone, false)
	return len(t.points), api.OK
}

func (t *plain) delete(n int) api.Errno {
	if !t.has(n) {
		return api.ErrPoint
	}
	t.gone[n-1] = true
	return api.OK
}

func (t *plain) turn(n int, off bool) api.Errno {
	if !t.has(n) {
		return api.ErrPoint
	}
	t.points[n-1].Off = off
	return api.OK
}

func (t *plain) get(n int) (api.Point, api.Errno) {
	if !t.has(n) {
		return api.Point{}, api.ErrPoint
	}
	return t.points[n-1], api.OK
}

func (t *plain) match(p api.Program, e api.Event, frames []api.Frame, arrays [][]api.Value) int {
	least := 0
	for n := len(t.points); n > 0; n-- {
		if t.has(n) && meetsPlainly(t.points[n-1], p, e, frames, arrays) {
			least = n
		}
	}
	return least
}

// meetsPlainly is P20.3, told by the events in place of the points.
func meetsPlainly(point api.Point, p api.Program, e api.Event, frames []api.Frame, arrays [][]api.Value) bool {
	frames = append(slices.Clone(frames), api.Frame{})
	if point.Off || !cond.Holds(point.Cond, frames[0].Vars, arrays) {
		return false
	}
	begins := point.Kind == api.PtFunc
	changes := point.Kind == api.PtWatch && point.Name == e.Name
	switch e.Kind {
	case api.EvStmt:
		return point.Kind == api.PtLine && slices.Contains(linesPlainly(p, e.Node), point.Line)
	case api.EvCall:
		return begins && point.Name == e.Name && kindsFrom(p, e.Node) == "F"
	case api.EvSet:
		return changes || begins && kindsFrom(p, e.Node) == "P" && ownerPlainly(p, e.Node) == point.Name
	case api.EvTouch:
		return changes
	}
	return false
}

// linesPlainly is the line of a node, or none.
func linesPlainly(p api.Program, n int) []int {
	if n < 0 || n >= len(p.Tree.Nodes) {
		return nil
	}
	at := p.Tree.Nodes[n].At
	if at < 0 || at > len(p.Text) {
		return nil
	}
	return []int{len(strings.Split(p.Text[:at], "\n"))}
}

// kindsFrom tells a node's kind by a letter, F a function, P a parameter, - any other one; and behind it P, if a parameter stands there.
func kindsFrom(p api.Program, n int) string {
	if n < 0 || n >= len(p.Tree.Nodes) {
		return ""
	}
	letters := ""
	for _, node := range p.Tree.Nodes[n:min(n+2, len(p.Tree.Nodes))] {
		switch node.Kind {
		case api.KFunc:
			letters += "F"
		case api.KParam:
			letters += "P"
		default:
			letters += "-"
		}
	}
	return letters[:1] + strings.TrimRight(letters[1:], "F-")
}

// ownerPlainly is the name of the last function ahead of a node, or none.
func ownerPlainly(p api.Program, n int) string {
	name := ""
	for _, node := range p.Tree.Nodes[:n] {
		if node.Kind == api.KFunc {
			name = node.Name
		}
	}
	return name
}
