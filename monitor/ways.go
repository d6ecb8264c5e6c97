package monitor

import "retrace/api"

// want tells whether a command wants an event, at whose position there are so many frames.
type want func(e api.Event, depth int) bool

// way is how commands of one kind move: what one wants, of the depth that it begins with, and how it goes there.
type way struct {
	wants func(depth int) want
	goes  func(m *Monitor, c api.Command, wants want) (api.Stop, api.Errno)
}

func wayOf(kind api.CommandKind) (w way, moves bool) {
	ways := [...]way{
		api.CmStep:      {statements, (*Monitor).forward},
		api.CmNext:      {statementsHere, (*Monitor).forward},
		api.CmFinish:    {outside, (*Monitor).forward},
		api.CmContinue:  {nothing, (*Monitor).forward},
		api.CmBack:      {everything, (*Monitor).backward},
		api.CmRnext:     {statementsHere, (*Monitor).backward},
		api.CmRfinish:   {outside, (*Monitor).backward},
		api.CmRcontinue: {nothing, (*Monitor).backToPoint},
		api.CmGoto:      {nothing, (*Monitor).goTo},
	}
	if kind < api.CmStep || int(kind) >= len(ways) {
		return way{}, false
	}
	return ways[kind], true
}

func statements(int) want {
	return func(e api.Event, _ int) bool { return e.Kind == api.EvStmt }
}

// statementsHere are those of the function in which the command begins, and of those around it.
func statementsHere(begun int) want {
	return func(e api.Event, depth int) bool { return e.Kind == api.EvStmt && depth <= begun }
}

// outside is where the function in which the command begins is left, or not begun yet.
func outside(begun int) want {
	return func(_ api.Event, depth int) bool { return depth < begun }
}

func nothing(int) want {
	return func(api.Event, int) bool { return false }
}

func everything(int) want {
	return func(api.Event, int) bool { return true }
}
