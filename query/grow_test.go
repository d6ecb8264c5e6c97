package query

import (
	"math/rand"
	"slices"
	"strconv"
	"strings"
	"testing"

	"retrace/api"
	"retrace/flow"
	"retrace/walk"
)

// grower makes sources whose runs have events of every kind, print, read, make arrays, trap, end, or go on for ever. All their names are seen everywhere: n, s and l in each function, i where a for is around.
type grower struct {
	*rand.Rand
	calls []string // that may stand where it is; most functions call only those above them
}

func newGrower(seed int64) *grower { return &grower{Rand: rand.New(rand.NewSource(seed))} }

func (g *grower) pick(list ...string) string { return list[g.Intn(len(list))] }

func (g *grower) source() string {
	g.calls = nil
	if g.Intn(6) == 0 {
		g.calls = []string{"count", "tell", "work"}
	}
	text := "fn count(n: int, l: [int]): int { var s: text = \"c\";\n" + g.list(1) + "return " + g.number(2) + "; }\n"
	g.calls = append(g.calls, "count")
	text += "fn tell(s: text): text { var n: int = len(s);\nvar l: [int] = new int[n % 5]; " + g.list(1) + "return " + g.text(2) + "; }\n"
	g.calls = append(g.calls, "tell")
	text += "fn work(n: int) { var s: text = str(n); var l: [int] = new int[2]; " + g.list(1) + "}\n"
	g.calls = append(g.calls, "work")
	return text + "fn main() { var n: int = " + g.pick("0", "1", "7") + "; var s: text = \"m\"; var l: [int] = new int[4];\n" + g.list(2) + g.list(3) + "}\n"
}

// ifCalls is a text that calls a function, or another one, if that may not be called.
func (g *grower) ifCalls(name, text, other string) string {
	if slices.Contains(g.calls, name) {
		return text
	}
	return other
}

func (g *grower) list(left int) string {
	var out strings.Builder
	for range 1 + g.Intn(4) {
		out.WriteString(g.statement(left) + g.pick(" ", " ", "\n"))
	}
	return out.String()
}

func (g *grower) block(left int) string {
	hides := g.pick("", "", "var n: int = "+g.number(1)+"; ", "var s: text = \"b\"; ")
	if g.Intn(2) == 0 {
		return "{ " + hides + g.list(left-1) + "}"
	}
	return "{ " + g.list(left-1) + hides + g.list(left-1) + "}"
}

func (g *grower) statement(left int) string {
	if left > 0 {
		switch g.Intn(9) {
		case 0:
			return "if " + g.truth() + " " + g.block(left)
		case 1:
			return "if " + g.truth() + " " + g.block(left) + " else " + g.block(left)
		case 2:
			return "for i = 1 to " + strconv.Itoa(g.Intn(6)) + " " + g.block(left)
		case 3:
			return "while " + g.truth() + " { n = n + 1; " + g.list(left-1) + "if n > " + strconv.Itoa(g.Intn(30)) + " { " + g.pick("break", "break", "continue") + "; } }"
		case 4:
			return g.block(left)
		}
	}
	switch g.Intn(8) {
	case 0:
		return "n = " + g.number(2) + ";"
	case 1:
		return "s = " + g.text(2) + ";"
	case 2:
		return "l = " + g.pick("new int["+g.number(1)+" % 7]", "l", "new int[3]") + ";"
	case 3:
		return "l[" + g.pick("0", "n % 3", "1") + "] = " + g.number(2) + ";"
	case 4:
		return "read " + g.pick("n", "n", "l[0]") + ";"
	case 5:
		return g.ifCalls("work", "work("+g.number(1)+");", "l[1] = 1;")
	case 6:
		return g.ifCalls("count", "count("+g.number(1)+", l);", "print s, n;")
	}
	return "print " + g.pick(g.number(1), g.text(1), g.number(1)+", "+g.text(1)) + ";"
}

func (g *grower) number(left int) string {
	if left > 0 && g.Intn(2) == 0 {
		return g.pick("n + "+g.number(left-1), "("+g.number(left-1)+") * 2", g.number(left-1)+" - 1", "n / "+g.pick("2", "n"), g.ifCalls("count", "count("+g.number(left-1)+", l)", "len(l)"), "len("+g.text(left-1)+")", "l["+g.pick("0", "1", "n % 4")+"]")
	}
	return g.pick("0", "1", "3", "n", "n", "len(l)", "len(s)")
}

func (g *grower) text(left int) string {
	if left > 0 && g.Intn(2) == 0 {
		return g.pick("s + "+g.text(left-1), g.ifCalls("tell", "tell("+g.text(left-1)+")", "s"), "str("+g.number(left-1)+")")
	}
	return g.pick("s", "\"\"", "\"two\\n\"", "str(n)")
}

func (g *grower) truth() string {
	return g.pick("true", "n < 5", "n % 2 == 0", "len(s) < 4", g.number(1)+" > 2", "s == "+g.text(1))
}

// grown is a program with its input and its limits.
type grown struct {
	source string
	input  []int64
	limits api.Limits
}

func (g *grower) program() grown {
	input := make([]int64, g.Intn(3)*g.Intn(12))
	for n := range input {
		input[n] = int64(g.Intn(9) - 2)
	}
	l := api.Limits{Depth: 1 + g.Intn(9), Cells: g.Intn(4) * 500}
	if l.Cells == 0 {
		l.Cells = g.Intn(30)
	}
	return grown{g.source(), input, l}
}

// walked is the program, with the record of its walk up to so many events.
func (one grown) walked(t testing.TB, most int) (api.Program, api.Record) {
	t.Helper()
	p, problem := flow.Front(one.source)
	if problem.Code != api.OK {
		t.Fatalf("%q is refused: %v", one.source, problem)
	}
	run, errno := walk.Run(p, one.input, one.limits, most)
	if errno != api.OK {
		t.Fatal(errno)
	}
	return p, api.Record{Outcome: run.Outcome, Output: run.Output, Input: run.Input, Events: run.Events}
}

// seeds tells how many runs are grown.
func seeds(all int64) int64 {
	if testing.Short() {
		return all / 5
	}
	return all
}
