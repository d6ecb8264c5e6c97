package verify

import (
	"slices"
	"testing"

	"retrace/api"
)

// smallWords is what the smallest codes are made of.
func smallWords(places int) []api.Instr {
	words := []api.Instr{{Op: api.InNop}, {Op: api.InInt}, {Op: api.InLoad}, {Op: api.InStore}, {Op: api.InPop}, {Op: api.InUn, A: 2}, {Op: api.InBin, A: int64(api.OpEq)}, {Op: api.InDone}, {Op: api.InRet}}
	for to := range places {
		words = append(words, api.Instr{Op: api.InJump, A: int64(to)}, api.Instr{Op: api.InFalse, A: int64(to)})
	}
	return words
}

// smallStacks is none, and all stacks of at most so many ints and bools.
func smallStacks(most int) [][]api.Sort {
	stacks := [][]api.Sort{nil, {}}
	for from, height := 1, 0; height < most; height++ {
		end := len(stacks)
		for _, below := range stacks[from:end] {
			stacks = append(stacks, append(slices.Clone(below), 1), append(slices.Clone(below), 2))
		}
		from = end
	}
	return stacks
}

// fitted tells whether some stacks, all tried, fit a code of one function.
func fitted(c api.Code, stacks [][]api.Sort, options [][]api.Sort) bool {
	if len(stacks) == len(c.Instrs) {
		return certifies(c, stacks)
	}
	for _, stack := range options {
		if fitted(c, append(stacks, stack), options) {
			return true
		}
	}
	return false
}

// P14.4: all codes of up to three instructions: just those are safe to which some stacks fit.
func TestSmall(t *testing.T) {
	safe := 0
	for length := 1; length <= 3; length++ {
		words, options := smallWords(length+1), smallStacks(length-1)
		total := 1
		for range length {
			total *= len(words)
		}
		for number := range total {
			c := api.Code{Entrys: []api.Entry{{Name: "main", Sorts: []api.Sort{2}}}}
			for range length {
				c.Instrs = append(c.Instrs, words[number%len(words)])
				number /= len(words)
			}
			errno := holds(t, c)
			if want := fitted(c, [][]api.Sort{{}}, options); (errno == api.OK) != want {
				t.Fatalf("%s: %d, stacks that fit: %v", told(c), errno, want)
			}
			if errno == api.OK {
				safe++
			}
		}
	}
	if safe < 200 {
		t.Errorf("but %d are safe", safe)
	}
}
