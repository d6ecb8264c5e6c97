package cond

import (
	"strings"

	"retrace/api"
	"retrace/types"
	"retrace/value"
)

// mostShown is how many elements of an array are shown.
const mostShown = 16

// heap is the arrays, by number. They may be any lists.
type heap [][]api.Value

// has tells whether a value is a reference to one of the arrays.
func (h heap) has(v api.Value) bool {
	return v.Kind == api.ValRef && value.Valid(v) && v.Int < int64(len(h))
}

// list is the elements of the array that a value refers to.
func (h heap) list(v api.Value) []api.Value {
	return h[v.Int]
}

// fits tells whether a value may be that of something of a type.
func (h heap) fits(v api.Value, typing string) bool {
	if v.Kind != types.Kind(typing) {
		return false
	}
	if v.Kind == api.ValRef {
		return h.has(v)
	}
	return value.Valid(v)
}

// show writes a value with what it refers to, so many arrays deep: they may go round.
func (h heap) show(to *strings.Builder, v api.Value, depth int) {
	if depth < 1 || !h.has(v) {
		to.WriteString(value.Show(v))
		return
	}
	list := h.list(v)
	to.WriteByte('[')
	for n, element := range list[:min(len(list), mostShown)] {
		if n > 0 {
			to.WriteString(", ")
		}
		h.show(to, element, depth-1)
	}
	if len(list) > mostShown {
		to.WriteString(", ..")
	}
	to.WriteByte(']')
}
