package code

import (
	"math"
	"strconv"

	"retrace/api"
)

// operand is what a number says: an instruction's A or B, or one in the line of main or of a function.
type operand int

const (
	none operand = iota // it is not named
	anyNumber
	truth
	poolText
	slot
	unaryOp
	binaryOp
	place
	function
	elements // the sort of an array's elements
	prints   // how many values one has
	hook
	params // how many a function has
)

// An instruction is its word and what its operands say.
type instruction struct {
	word string
	a, b operand
}

var instructions = [...]instruction{
	api.InNop:   {"nop", none, none},
	api.InInt:   {"int", anyNumber, none},
	api.InBool:  {"bool", truth, none},
	api.InText:  {"text", poolText, none},
	api.InLoad:  {"load", slot, none},
	api.InStore: {"store", slot, none},
	api.InPop:   {"pop", none, none},
	api.InUn:    {"un", unaryOp, none},
	api.InBin:   {"bin", binaryOp, none},
	api.InJump:  {"jump", place, none},
	api.InFalse: {"false", place, none},
	api.InCall:  {"call", function, none},
	api.InRet:   {"ret", none, none},
	api.InDone:  {"done", none, none},
	api.InNew:   {"new", elements, none},
	api.InGet:   {"get", none, none},
	api.InPut:   {"put", none, none},
	api.InLen:   {"len", none, none},
	api.InStr:   {"str", none, none},
	api.InPrint: {"print", prints, none},
	api.InRead:  {"read", none, none},
	api.InEmit:  {"emit", hook, none},
	api.InShow:  {"show", hook, slot},
	api.InTell:  {"tell", hook, none},
}

// A shape is which numbers an operand may be, and in how many bytes it is laid.
type shape struct {
	least, most int64
	bytes       int
}

var shapes = [...]shape{
	none:      {0, 0, 0},
	anyNumber: {math.MinInt64, math.MaxInt64, 8},
	truth:     {0, 1, 1},
	poolText:  {0, api.MaxTexts - 1, 2},
	slot:      {0, api.MaxSlots - 1, 1},
	unaryOp:   {int64(api.OpNeg), int64(api.OpNot), 1},
	binaryOp:  {int64(api.OpAdd), int64(api.OpGe), 1},
	place:     {0, api.MaxInstrs - 1, 4},
	function:  {0, api.MaxFuncs - 1, 1},
	elements:  {1, 15, 1},
	prints:    {1, api.MaxPrints, 1},
	hook:      {1, api.MaxTree, 2},
	params:    {0, api.MaxParams, 1},
}

var signs = [...]string{
	api.OpNeg: "-",
	api.OpNot: "!",
	api.OpAdd: "+",
	api.OpSub: "-",
	api.OpMul: "*",
	api.OpDiv: "/",
	api.OpMod: "%",
	api.OpEq:  "==",
	api.OpNe:  "!=",
	api.OpLt:  "<",
	api.OpLe:  "<=",
	api.OpGt:  ">",
	api.OpGe:  ">=",
}

// typeNames are the types by their sorts; what has no name here is no sort.
var typeNames = [...]string{
	1: "int", 2: "bool", 3: "text",
	5: "[int]", 6: "[bool]", 7: "[text]",
	9: "[[int]]", 10: "[[bool]]", 11: "[[text]]",
	13: "[[[int]]]", 14: "[[[bool]]]", 15: "[[[text]]]",
	17: "[[[[int]]]]", 18: "[[[[bool]]]]", 19: "[[[[text]]]]",
}

// mayBe tells whether an operand may be this number.
func (o operand) mayBe(n int64) bool {
	s := shapes[o]
	return s.least <= n && n <= s.most && (o != elements || sortMayBe(api.Sort(n)))
}

// word gives an operand that may be as assembler text has it.
func (o operand) word(n int64) string {
	switch o {
	case truth:
		return strconv.FormatBool(n == 1)
	case unaryOp, binaryOp:
		return signs[n]
	case elements:
		return typeNames[n]
	}
	return strconv.FormatInt(n, 10)
}

// read tells the operand that a word says, and whether there is one.
func (o operand) read(word string) (int64, bool) {
	switch o {
	case truth, unaryOp, binaryOp, elements:
		for n := shapes[o].least; n <= shapes[o].most; n++ {
			if o.mayBe(n) && o.word(n) == word {
				return n, true
			}
		}
		return 0, false
	}
	n, err := strconv.ParseInt(word, 10, 64)
	// A number has one word: this leaves out zeros and signs that are too many.
	return n, err == nil && o.mayBe(n) && o.word(n) == word
}
