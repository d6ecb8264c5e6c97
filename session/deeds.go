package session

import (
	"strconv"

	"retrace/api"
	"retrace/command"
)

// deed is what a command does in a session, and what is answered to it.
type deed func(s *Session, c api.Command) api.Response

// deedOf gives what commands of a kind do, which is one that command.Parse tells.
func deedOf(kind api.CommandKind) deed {
	deeds := [...]deed{
		api.CmBreak:     (*Session).set,
		api.CmWatch:     (*Session).set,
		api.CmDelete:    (*Session).set,
		api.CmEnable:    (*Session).set,
		api.CmDisable:   (*Session).set,
		api.CmPoints:    (*Session).points,
		api.CmStep:      (*Session).move,
		api.CmNext:      (*Session).move,
		api.CmFinish:    (*Session).move,
		api.CmContinue:  (*Session).move,
		api.CmBack:      (*Session).move,
		api.CmRnext:     (*Session).move,
		api.CmRfinish:   (*Session).move,
		api.CmRcontinue: (*Session).move,
		api.CmGoto:      (*Session).move,
		api.CmPrint:     (*Session).print,
		api.CmLocals:    (*Session).locals,
		api.CmStack:     (*Session).stack,
		api.CmWhere:     (*Session).where,
		api.CmList:      (*Session).list,
		api.CmOutput:    (*Session).output,
		api.CmEvent:     (*Session).event,
	}
	return deeds[kind]
}

// refusal is what is answered where nothing was done.
func refusal(errno api.Errno) api.Response {
	return api.Response{Status: errno}
}

// answer is what is answered where the run has not moved.
func (s *Session) answer(lines ...string) api.Response {
	return api.Response{Stop: api.Stop{At: s.At()}, Lines: lines}
}

func (s *Session) move(c api.Command) api.Response {
	stop, errno := s.monitor.Move(c)
	if errno != api.OK && errno != api.ErrBudget {
		return refusal(errno)
	}
	// A result costs a copy of all arrays: it is asked only where its outcome is told.
	var outcome api.Outcome
	if stop.Kind == api.StopEnd {
		outcome = s.monitor.Result().Outcome
	}
	lines := append([]string{command.Stop(stop, outcome)}, s.here()...)
	return api.Response{Status: errno, Stop: stop, Lines: lines}
}

func (s *Session) set(c api.Command) api.Response {
	n, errno := s.monitor.Set(c)
	if errno != api.OK {
		return refusal(errno)
	}
	become := [...]string{
		api.CmBreak:   "",
		api.CmWatch:   "",
		api.CmDelete:  " deleted",
		api.CmEnable:  " on",
		api.CmDisable: " off",
	}
	return s.answer("point " + strconv.Itoa(n) + become[c.Kind])
}
