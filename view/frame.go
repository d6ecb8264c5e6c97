package view

import (
	"slices"
	"strings"

	"retrace/api"
)

// frame is a call that has begun and not ended.
type frame struct {
	function int
	node     int         // the statement whose EvStmt came last; 0, if none came yet
	open     []openBlock // the body first, each one directly around the next
	vars     []api.Shown // of all open blocks, in the order in which they came: each came when its block was the last open one
}

type openBlock struct {
	node  int
	first int // the place of its first variable among the frame's
}

// openBehind opens a block behind the last open one.
func (f *frame) openBehind(block int) {
	f.open = append(f.open, openBlock{node: block, first: len(f.vars)})
}

// closeFrom closes the open blocks from that place on.
func (f *frame) closeFrom(place int) {
	if place < len(f.open) {
		// Delete leaves nothing of them in the lists' spare room.
		f.vars = slices.Delete(f.vars, f.open[place].first, len(f.vars))
		f.open = slices.Delete(f.open, place, len(f.open))
	}
}

// setIn is the variables that have been set in the open block at a place.
func (f *frame) setIn(place int) []api.Shown {
	end := len(f.vars)
	if place+1 < len(f.open) {
		end = f.open[place+1].first
	}
	return f.vars[f.open[place].first:end]
}

// find tells the place of the variable of a slot, which is -1 if it is set in no open block.
func (f *frame) find(slot int) int {
	return slices.IndexFunc(f.vars, func(v api.Shown) bool { return v.Var.Slot == slot })
}

// seen is the variables that can be seen, as memory of its own.
func (f *frame) seen() []api.Shown {
	// A block has no name twice, so of two with one name the later one is further in.
	innermost := map[string]int{}
	for n, v := range f.vars {
		innermost[v.Var.Name] = n
	}
	told := make([]api.Shown, 0, len(innermost))
	for n, v := range f.vars {
		if innermost[v.Var.Name] == n {
			told = append(told, copiedShown(v))
		}
	}
	return told
}

// copied is a frame as memory of its own.
func (f *frame) copied() frame {
	twin := *f
	twin.open, twin.vars = slices.Clone(f.open), slices.Clone(f.vars)
	for n, v := range f.vars {
		twin.vars[n] = copiedShown(v)
	}
	return twin
}

func copiedShown(v api.Shown) api.Shown {
	return api.Shown{Var: copiedVar(v.Var), Value: copiedValue(v.Value)}
}

func copiedValue(v api.Value) api.Value {
	v.Text = strings.Clone(v.Text)
	return v
}

func copiedEvent(e api.Event) api.Event {
	e.Name, e.Value = strings.Clone(e.Name), copiedValue(e.Value)
	return e
}
