package walk

import (
	"testing"

	"retrace/api"
)

// leaves are statements without others in them; those of a loop jump out of it, or of the one called a.
func leaves(inLoop bool) []string {
	list := []string{"print 1; ", "return; ", "break a; ", "continue a; "}
	if inLoop {
		list = append(list, "break; ", "continue; ")
	}
	return list
}

// sequences are the lists of at most one statement, or of two.
func sequences(statements []string, two bool) []string {
	list := append([]string{""}, statements...)
	for _, first := range statements {
		for _, second := range statements {
			if two {
				list = append(list, first+second)
			}
		}
	}
	return list
}

// ways are all statements with short blocks in them.
func ways() []string {
	list := leaves(true)
	for _, block := range sequences(leaves(true), false) {
		list = append(list, "{ "+block+"} ", "if c() { "+block+"} ")
		for _, other := range sequences(leaves(true), false) {
			list = append(list, "if c() { "+block+"} else { "+other+"} ")
		}
		list = append(list, "if c() { print 2; } else if c() { "+block+"} ")
		list = append(list, "while c() { "+block+"} ", "b: for i = 1 to 2 { "+block+"} ")
	}
	return list
}

// All short programs of a loop: what it does hangs on what the conditions read.
func TestControl(t *testing.T) {
	const ahead, behind = "fn c(): bool { var x: int = 0; read x; return x > 0; } fn main() { ", "print 3; }"
	inputs := [][]int64{{}, {1, 1, 1, 1, 1, 1}, {1, 0, 1, 1, 0, 1, 0}, {1, 1, 0, 0, 1, 0}}
	loops := []string{"a: while c() { ", "a: for i = 1 to 2 { "}
	for i, body := range sequences(ways(), true) {
		if testing.Short() && i%10 > 0 {
			continue
		}
		for _, loop := range loops {
			text := ahead + loop + body + "} " + behind
			p := front(t, text)
			input := inputs[i%len(inputs)]
			if len(body) < 60 { // shorter ones are tried with all inputs
				for _, input := range inputs[1:] {
					follows(t, grown{text, p, input, api.Limits{Depth: 2}}, 40)
				}
			}
			follows(t, grown{text, p, input, api.Limits{Depth: 2}}, 40)
		}
	}
}
