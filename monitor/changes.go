package monitor

import (
	"retrace/api"
	"retrace/points"
)

// change is what commands of one kind change among the points: which of them it takes, whatever their Text is, and what it does.
type change struct {
	takes func(c api.Command) bool
	does  func(t *points.Table, c api.Command) (int, api.Errno)
}

func changeOf(kind api.CommandKind) (c change, sets bool) {
	changes := [...]change{
		api.CmBreak:   {isBreak, add},
		api.CmWatch:   {isWatch, add},
		api.CmDelete:  {namesPoint, remove},
		api.CmEnable:  {namesPoint, turn(false)},
		api.CmDisable: {namesPoint, turn(true)},
	}
	if kind < api.CmBreak || int(kind) >= len(changes) {
		return change{}, false
	}
	return changes[kind], true
}

func isBreak(c api.Command) bool {
	return c.N == 0 && (c.Point.Kind == api.PtLine || c.Point.Kind == api.PtFunc)
}

func isWatch(c api.Command) bool {
	return c.N == 0 && c.Point.Kind == api.PtWatch
}

// namesPoint tells whether a command says of which point it is by its number alone.
func namesPoint(c api.Command) bool {
	return c.Point == api.Point{}
}

func add(t *points.Table, c api.Command) (int, api.Errno) {
	return t.Add(c.Point)
}

func remove(t *points.Table, c api.Command) (int, api.Errno) {
	return c.N, t.Delete(c.N)
}

func turn(off bool) func(*points.Table, api.Command) (int, api.Errno) {
	return func(t *points.Table, c api.Command) (int, api.Errno) {
		return c.N, t.Turn(c.N, off)
	}
}
