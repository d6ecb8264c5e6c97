package record

import "retrace/api"

// row is what is done with the values of one kind.
type row struct {
	mayBe func(v api.Value) bool
	lay   func(w *writer, v api.Value)
	read  func(r *reader) api.Value // without its kind
}

// rowOf gives the row of a kind, if there is such a kind.
func rowOf(kind api.ValueKind) (row, bool) {
	rows := [...]row{
		api.ValNone: {
			mayBe: func(v api.Value) bool { return v == api.Value{} },
			lay:   func(*writer, api.Value) {},
			read:  func(*reader) api.Value { return api.Value{} },
		},
		api.ValInt: {
			mayBe: func(v api.Value) bool { return v.Text == "" },
			lay:   func(w *writer, v api.Value) { w.signed(v.Int) },
			read:  func(r *reader) api.Value { return api.Value{Int: r.signed()} },
		},
		api.ValBool: {
			mayBe: func(v api.Value) bool { return (v.Int == 0 || v.Int == 1) && v.Text == "" },
			lay:   func(w *writer, v api.Value) { w.byte(byte(v.Int)) },
			read:  func(r *reader) api.Value { return api.Value{Int: int64(r.byte())} },
		},
		api.ValText: {
			mayBe: func(v api.Value) bool { return v.Int == 0 && len(v.Text) <= api.MaxText },
			lay: func(w *writer, v api.Value) {
				w.number(uint64(len(v.Text)))
				w.bytes(v.Text)
			},
			read: func(r *reader) api.Value { return api.Value{Text: r.bytes(r.number())} },
		},
		api.ValRef: {
			mayBe: func(v api.Value) bool { return v.Int >= 0 && v.Text == "" },
			lay:   func(w *writer, v api.Value) { w.number(uint64(v.Int)) },
			read:  func(r *reader) api.Value { return api.Value{Int: int64(r.number())} },
		},
	}
	if kind < 0 || int(kind) >= len(rows) {
		return row{}, false
	}
	return rows[kind], true
}
