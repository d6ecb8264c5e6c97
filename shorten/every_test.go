package shorten

import (
	"slices"
	"testing"

	"retrace/api"
	"retrace/verify"
)

// few is instructions of which short codes are made; those that name one name each of them, and one behind the end.
func few(length int) []api.Instr {
	list := []api.Instr{
		{Op: api.InNop}, {Op: api.InInt, A: 2}, {Op: api.InBool, A: 1}, {Op: api.InBool}, {Op: api.InLoad}, {Op: api.InStore},
		{Op: api.InPop}, {Op: api.InUn, A: int64(api.OpNot)}, {Op: api.InBin, A: int64(api.OpEq)}, {Op: api.InDone},
	}
	for to := range int64(length) {
		list = append(list, api.Instr{Op: api.InJump, A: to}, api.Instr{Op: api.InFalse, A: to})
	}
	return list
}

// each goes through all lists of some instructions of a length.
func each(list []api.Instr, length int, yield func([]api.Instr)) {
	instrs := make([]api.Instr, length)
	var fill func(at int)
	fill = func(at int) {
		if at == length {
			yield(instrs)
			return
		}
		for _, in := range list {
			instrs[at] = in
			fill(at + 1)
		}
	}
	fill(0)
}

// P27.1 to P27.7: all short codes of one function.
func TestEvery(t *testing.T) {
	longest := 4
	if testing.Short() {
		longest = 3
	}
	safe := 0
	for length := 1; length <= longest; length++ {
		each(few(length), length, func(instrs []api.Instr) {
			c := api.Code{Instrs: instrs, Entrys: []api.Entry{{Name: "main", Sorts: []api.Sort{2}}}}
			if errno, _ := verify.Check(c); errno != api.OK {
				return
			}
			safe++
			short, _ := holds(t, c)
			seenTheSame(t, c, short, nil, api.Limits{Depth: 1}, 20)
		})
	}
	if safe < 100 || longest == 4 && safe < 3000 {
		t.Errorf("but %d were safe", safe)
	}
}

// P27.2, P27.3: all short lists where no way leads: here whatever may be named by a jump is.
func TestEveryIdle(t *testing.T) {
	idle := []api.Instr{{Op: api.InBool, A: 1}, {Op: api.InBool}, {Op: api.InUn, A: int64(api.OpNot)}, {Op: api.InPop}, {Op: api.InBin, A: int64(api.OpNe)}}
	length := 5
	if testing.Short() {
		length = 4
	}
	for to := range int64(length + 2) {
		idle = append(idle, api.Instr{Op: api.InFalse, A: to}, api.Instr{Op: api.InJump, A: to})
	}
	count := 0
	each(idle, length, func(instrs []api.Instr) {
		count++
		if count%7 > 0 && length == 5 { // each seventh is enough
			return
		}
		c := mainsOwn(instrs)
		for n, one := range calls()[:2] {
			d, errno := one.do(c)
			if want := []func(api.Code) api.Code{wantFold, wantThread}[n](c); errno != api.OK || !slices.Equal(d.Instrs, want.Instrs) {
				t.Fatalf("P27.%d: %s of %s: %s, want %s", n+2, one.name, told(c), told(d), told(want))
			}
		}
	})
}

// mainsOwn is a code of one function that ends at once, and what stands behind that.
func mainsOwn(behind []api.Instr) api.Code {
	return api.Code{Instrs: append([]api.Instr{{Op: api.InDone}}, behind...), Entrys: []api.Entry{{Name: "main"}}}
}
