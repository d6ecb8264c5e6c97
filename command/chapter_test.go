package command

import (
	"strings"
	"testing"

	"retrace/api"
)

func onLine(line int, condition string) api.Command {
	return api.Command{Kind: api.CmBreak, Point: api.Point{Kind: api.PtLine, Line: line, Cond: condition}}
}

func onCall(name, condition string) api.Command {
	return api.Command{Kind: api.CmBreak, Point: api.Point{Kind: api.PtFunc, Name: name, Cond: condition}}
}

func onChange(name, condition string) api.Command {
	return api.Command{Kind: api.CmWatch, Point: api.Point{Kind: api.PtWatch, Name: name, Cond: condition}}
}

func numbered(kind api.CommandKind, n int) api.Command { return api.Command{Kind: kind, N: n} }

func printing(text string) api.Command { return api.Command{Kind: api.CmPrint, Text: text} }

// P23.1: the chapter's rows of lines that are commands.
func TestExampleParse(t *testing.T) {
	for _, row := range []struct {
		line string
		want api.Command
	}{
		{"break 2", onLine(2, "")}, {"  break\t2 ", onLine(2, "")},
		{"break main if a > 1", onCall("main", "a > 1")}, {`watch x if  x == "if" `, onChange("x", `x == "if"`)},
		{"print a  + b", printing("a  + b")}, {"print print", printing("print")},
		{"goto -3", numbered(api.CmGoto, -3)}, {"goto 0", numbered(api.CmGoto, 0)}, {"delete 12", numbered(api.CmDelete, 12)},
		{"goto 9223372036854775807", numbered(api.CmGoto, 9223372036854775807)},
	} {
		if got, errno := Parse(row.line); got != row.want || errno != api.OK {
			t.Errorf("Parse(%q) = %+v, %d, want %+v", row.line, got, errno, row.want)
		}
	}
}

// P23.1: the chapter's rows of lines that are none.
func TestExampleNoCommand(t *testing.T) {
	for _, line := range []string{
		"break 0", "break 02", "break if", "break 2 if", "break 2 x", "break a b", "watch 2", "print", "step 1", "goto -0", "goto +1", "goto", "Step", "steps", "", strings.Repeat(" ", 301),
		"goto 9223372036854775808", "delete -1",
	} {
		if got, errno := Parse(line); got != (api.Command{}) || errno != api.ErrCommand {
			t.Errorf("Parse(%q) = %+v, %d", line, got, errno)
		}
	}
}

// P23.1, P23.2: the commands that are one word, by the chapter's order of both.
func TestExampleWords(t *testing.T) {
	words := strings.Fields("points step next finish continue back rnext rfinish rcontinue locals stack where list output event")
	kinds := []api.CommandKind{api.CmPoints, api.CmStep, api.CmNext, api.CmFinish, api.CmContinue, api.CmBack, api.CmRnext, api.CmRfinish, api.CmRcontinue, api.CmLocals, api.CmStack, api.CmWhere, api.CmList, api.CmOutput, api.CmEvent}
	for n, word := range words {
		want := api.Command{Kind: kinds[n]}
		if got, errno := Parse(word); got != want || errno != api.OK {
			t.Errorf("Parse(%q) = %+v, %d", word, got, errno)
		}
		if got, errno := Text(want); got != word || errno != api.OK {
			t.Errorf("Text(%+v) = %q, %d, want %q", want, got, errno, word)
		}
	}
	for word, kind := range map[string]api.CommandKind{"delete": api.CmDelete, "enable": api.CmEnable, "disable": api.CmDisable, "goto": api.CmGoto} {
		if got, errno := Parse(word + " 7"); got != numbered(kind, 7) || errno != api.OK {
			t.Errorf("Parse(%q) = %+v, %d", word+" 7", got, errno)
		}
	}
}

// P23.2: the chapter's rows.
func TestExampleText(t *testing.T) {
	for _, row := range []struct {
		command api.Command
		want    string
		errno   api.Errno
	}{
		{numbered(api.CmGoto, -3), "goto -3", api.OK},
		{api.Command{Kind: api.CmStep}, "step", api.OK},
		{api.Command{Kind: api.CmBreak, Point: api.Point{Kind: api.PtWatch, Name: "x"}}, "", api.ErrArg},
		{numbered(api.CmStep, 1), "", api.ErrArg},
		{printing(" a"), "", api.ErrArg},
	} {
		if got, errno := Text(row.command); got != row.want || errno != row.errno {
			t.Errorf("Text(%+v) = %q, %d, want %q, %d", row.command, got, errno, row.want, row.errno)
		}
	}
}

// P23.3: the chapter's rows.
func TestExampleEvent(t *testing.T) {
	five := api.Value{Kind: api.ValInt, Int: 5}
	for _, row := range []struct {
		event api.Event
		want  string
	}{
		{api.Event{Kind: api.EvSet, Node: 8, Name: "x", Value: five}, "set 8 x = 5"},
		{api.Event{Kind: api.EvReturn, Node: 4}, "return 4"},
		{api.Event{Kind: api.EvCall, Node: 1, Name: "f"}, "call 1 f"},
		{api.Event{Kind: 9}, "?"},
		{api.Event{Kind: api.EvStmt, Node: 3}, "stmt 3"},
		{api.Event{Kind: api.EvEnter, Node: 3}, "enter 3"},
		{api.Event{Kind: api.EvExit, Node: 3}, "exit 3"},
		{api.Event{Kind: api.EvLeave, Node: -3}, "leave -3"},
		{api.Event{Kind: api.EvReturn, Node: 4, Value: five}, "return 4 = 5"},
		{api.Event{Kind: api.EvTouch, Node: 8, Name: "a", Value: api.Value{Kind: api.ValRef, Int: 1}}, "touch 8 a = #1"},
	} {
		if got := Event(row.event); got != row.want {
			t.Errorf("Event(%+v) = %q, want %q", row.event, got, row.want)
		}
	}
}

// P23.4: the chapter's rows, and each kind, phase and trap once.
func TestExampleStop(t *testing.T) {
	for _, row := range []struct {
		stop    api.Stop
		outcome api.Outcome
		want    string
	}{
		{api.Stop{Kind: api.StopPoint, At: 12, Point: 2}, api.Outcome{}, "at 12: point 2"},
		{api.Stop{Kind: api.StopEnd, At: 16}, api.Outcome{Phase: api.Trapped, Trap: api.TrapIndex}, "at 16: trap index"},
		{api.Stop{At: 4}, api.Outcome{}, "at 4"},
		{api.Stop{Kind: api.StopStep, At: 5}, api.Outcome{}, "at 5: step"},
		{api.Stop{Kind: api.StopEnd, At: 6}, api.Outcome{}, "at 6: running"},
		{api.Stop{Kind: api.StopEnd, At: 7}, api.Outcome{Phase: api.Ended}, "at 7: ended"},
		{api.Stop{Kind: api.StopStart}, api.Outcome{}, "at 0: start"},
		{api.Stop{Kind: api.StopBudget, At: 9}, api.Outcome{}, "at 9: budget"},
		{api.Stop{Kind: api.StopGoto, At: 10}, api.Outcome{}, "at 10: goto"},
		{api.Stop{Kind: 7, At: -1}, api.Outcome{}, "at -1: ?"},
	} {
		if got := Stop(row.stop, row.outcome); got != row.want {
			t.Errorf("Stop(%+v, %+v) = %q, want %q", row.stop, row.outcome, got, row.want)
		}
	}
	for n, word := range strings.Fields("? divide index depth heap input long stuck ?") {
		if got := Stop(api.Stop{Kind: api.StopEnd}, api.Outcome{Phase: api.Trapped, Trap: api.Trap(n)}); got != "at 0: trap "+word {
			t.Errorf("trap %d: %q, want %q", n, got, word)
		}
	}
}

// P23.5: the chapter's rows, and more than one line.
func TestExampleResponse(t *testing.T) {
	for _, row := range []struct {
		response api.Response
		want     string
	}{
		{api.Response{Lines: []string{"a\\\n"}}, "ok\n  a\\\\\\n\n"},
		{api.Response{Status: 230}, "error 230\n"},
		{api.Response{}, "ok\n"},
		{api.Response{Status: -7, Stop: api.Stop{Kind: api.StopStep, At: 3}, Lines: []string{"", " \"b\" ", "\t\x00\x7f\x80\xff\r~"}}, "error -7\n  \n   \"b\" \n  \\x09\\x00\\x7f\\x80\\xff\\x0d~\n"},
	} {
		if got := Response(row.response); got != row.want {
			t.Errorf("Response(%+v) = %q, want %q", row.response, got, row.want)
		}
	}
}

// The commands of DOC.md's examples 7 to 10.
func TestExampleWhole(t *testing.T) {
	for line, want := range map[string]api.Command{
		"break 2": onLine(2, ""), "print a + b": printing("a + b"), "watch x": onChange("x", ""), "goto 16": numbered(api.CmGoto, 16), "goto 99": numbered(api.CmGoto, 99),
		"continue": {Kind: api.CmContinue}, "back": {Kind: api.CmBack}, "rcontinue": {Kind: api.CmRcontinue},
	} {
		if got, errno := Parse(line); got != want || errno != api.OK {
			t.Errorf("Parse(%q) = %+v, %d", line, got, errno)
		}
	}
}
