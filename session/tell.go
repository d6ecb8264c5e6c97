package session

import (
	"strconv"

	"retrace/api"
	"retrace/command"
	"retrace/cond"
	"retrace/source"
)

const (
	depthShown  = 3 // how deep a value's arrays are shown
	linesAround = 2 // how many lines are listed ahead of a frame's own, and behind it
)

// orNo is the lines, or, if there are none, one that says so.
func orNo(what string, lines []string) []string {
	if len(lines) == 0 {
		return []string{"no " + what}
	}
	return lines
}

func (s *Session) points(api.Command) api.Response {
	numbers, list := s.monitor.Points()
	var lines []string
	for i, p := range list {
		lines = append(lines, pointLine(numbers[i], p))
	}
	return s.answer(orNo("points", lines)...)
}

func pointLine(n int, p api.Point) string {
	c := api.Command{Kind: api.CmBreak, Point: p}
	if p.Kind == api.PtWatch {
		c.Kind = api.CmWatch
	}
	c.Point.Off = false
	text, _ := command.Text(c) // no error: such a command has set the point
	line := strconv.Itoa(n) + ": " + text
	if p.Off {
		line += " (off)"
	}
	return line
}

func (s *Session) print(c api.Command) api.Response {
	arrays := s.monitor.Result().Arrays
	v, errno := cond.Eval(c.Text, s.vars(), arrays)
	if errno != api.OK {
		return refusal(errno)
	}
	return s.answer(c.Text + " = " + cond.Deep(v, arrays, depthShown))
}

func (s *Session) locals(api.Command) api.Response {
	arrays := s.monitor.Result().Arrays
	var lines []string
	for _, v := range s.vars() {
		lines = append(lines, v.Var.Name+": "+v.Var.Type+" = "+cond.Deep(v.Value, arrays, depthShown))
	}
	return s.answer(orNo("variables", lines)...)
}

func (s *Session) stack(api.Command) api.Response {
	var lines []string
	for i, f := range s.monitor.Frames() {
		lines = append(lines, "#"+strconv.Itoa(i)+" "+s.title(f))
	}
	return s.answer(orNo("frames", lines)...)
}

func (s *Session) where(api.Command) api.Response {
	return s.answer(orNo("frames", s.here())...)
}

func (s *Session) list(api.Command) api.Response {
	at := 0
	if f, some := s.frame(); some {
		at = s.offset(f)
	}
	lines, _ := source.Excerpt(s.text, at, linesAround) // no error: a node stands in the text
	return s.answer(lines...)
}

func (s *Session) output(api.Command) api.Response {
	var lines []string
	for line := range linesOf(s.monitor.Result().Output) {
		lines = append(lines, line)
	}
	return s.answer(orNo("output", lines)...)
}

func (s *Session) event(api.Command) api.Response {
	var lines []string
	if e, some := s.monitor.Last(); some {
		lines = []string{command.Event(e)}
	}
	return s.answer(orNo("event", lines)...)
}

// frame is the innermost one, if there is any.
func (s *Session) frame() (f api.Frame, some bool) {
	frames := s.monitor.Frames()
	if len(frames) == 0 {
		return api.Frame{}, false
	}
	return frames[0], true
}

// vars are the variables of the innermost frame.
func (s *Session) vars() []api.Shown {
	f, _ := s.frame()
	return f.Vars
}

// here is the line that tells where the innermost frame is; none, if there is no frame.
func (s *Session) here() []string {
	f, some := s.frame()
	if !some {
		return nil
	}
	text, _ := source.Line(s.text, s.line(f)) // no error: a frame's line is one of the text
	return []string{s.title(f) + ": " + text}
}

// title is a frame's function and its line.
func (s *Session) title(f api.Frame) string {
	return s.funcs[f.Func].Name + " line " + strconv.Itoa(s.line(f))
}

func (s *Session) line(f api.Frame) int {
	place, _ := source.Where(s.text, s.offset(f)) // no error: a node stands in the text
	return place.Line
}

// offset is where a frame's statement begins in the text, or its function, if no statement has begun there yet.
func (s *Session) offset(f api.Frame) int {
	node := f.Node
	if node == 0 {
		node = s.funcs[f.Func].Node
	}
	return s.nodes[node].At
}
