package command

import (
	"strconv"

	"retrace/api"
	"retrace/value"
)

const hexDigits = "0123456789abcdef"

var eventWords = [...]string{
	api.EvStmt:   "stmt",
	api.EvEnter:  "enter",
	api.EvExit:   "exit",
	api.EvCall:   "call",
	api.EvLeave:  "leave",
	api.EvReturn: "return",
	api.EvSet:    "set",
	api.EvTouch:  "touch",
}

var trapWords = [...]string{
	api.TrapDivide: "divide",
	api.TrapIndex:  "index",
	api.TrapDepth:  "depth",
	api.TrapHeap:   "heap",
	api.TrapInput:  "input",
	api.TrapLong:   "long",
	api.TrapStuck:  "stuck",
}

// Event gives an event's line.
func Event(e api.Event) string {
	if e.Kind < api.EvStmt || e.Kind > api.EvTouch {
		return "?"
	}
	line := eventWords[e.Kind] + " " + strconv.Itoa(e.Node)
	switch e.Kind {
	case api.EvCall:
		line += " " + e.Name
	case api.EvReturn:
		if e.Value.Kind != api.ValNone {
			line += " = " + value.Show(e.Value)
		}
	case api.EvSet, api.EvTouch:
		line += " " + e.Name + " = " + value.Show(e.Value)
	}
	return line
}

// Stop gives a stop's line.
func Stop(s api.Stop, o api.Outcome) string {
	line := "at " + strconv.Itoa(s.At)
	if s.Kind == api.StopNone {
		return line
	}
	return line + ": " + reason(s, o)
}

// reason is why a run stands where it stands.
func reason(s api.Stop, o api.Outcome) string {
	switch s.Kind {
	case api.StopStep:
		return "step"
	case api.StopPoint:
		return "point " + strconv.Itoa(s.Point)
	case api.StopEnd:
		return ending(o)
	case api.StopStart:
		return "start"
	case api.StopBudget:
		return "budget"
	case api.StopGoto:
		return "goto"
	}
	return "?"
}

func ending(o api.Outcome) string {
	switch o.Phase {
	case api.Ended:
		return "ended"
	case api.Trapped:
		return "trap " + trapWord(o.Trap)
	}
	return "running"
}

func trapWord(t api.Trap) string {
	if t < api.TrapDivide || t > api.TrapStuck {
		return "?"
	}
	return trapWords[t]
}

// Response gives a response's lines as a text.
func Response(r api.Response) string {
	text := []byte("ok\n")
	if r.Status != api.OK {
		text = []byte("error " + strconv.Itoa(int(r.Status)) + "\n")
	}
	for _, line := range r.Lines {
		text = append(text, "  "...)
		for i := range len(line) {
			text = appendShown(text, line[i])
		}
		text = append(text, '\n')
	}
	return string(text)
}

// appendShown tells a byte of a line so that every line has one text, and no two have the same.
func appendShown(text []byte, b byte) []byte {
	switch {
	case b == '\n':
		return append(text, '\\', 'n')
	case b == '\\':
		return append(text, '\\', '\\')
	case 32 <= b && b <= 126:
		return append(text, b)
	}
	return append(text, '\\', 'x', hexDigits[b>>4], hexDigits[b&15])
}
