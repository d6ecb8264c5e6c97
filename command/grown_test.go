package command

import (
	"math"
	"math/rand"
	"slices"
	"strconv"
	"strings"
	"testing"

	"retrace/api"
)

func seeds(all int64) int64 {
	if testing.Short() {
		return all / 10
	}
	return all
}

func picked[T any](r *rand.Rand, list ...T) T { return list[r.Intn(len(list))] }

func grownName(r *rand.Rand) string {
	if r.Intn(3) == 0 {
		return picked(r, "main", "x", "iff", "breaks", "Print", "step", "delete", "a_1", strings.Repeat("n", 24))
	}
	name := []byte{picked(r, []byte("abzAZ")...)}
	for range r.Intn(24) {
		name = append(name, picked(r, []byte("abzAZ059_")...))
	}
	if isKeyword(string(name)) {
		return "x"
	}
	return string(name)
}

// grownExpr is a text of which neither the first byte nor the last one is a blank, without a line feed, most often none of Tern.
func grownExpr(r *rand.Rand, most int) string {
	text := make([]byte, 1+r.Intn(most))
	for i := range text {
		text[i] = picked(r, []byte("ab01 \t\t  if\"\\#\r\x00\x7f\x80\xff+-")...)
		if r.Intn(8) == 0 {
			text[i] = byte(r.Intn(256))
		}
		if text[i] == '\n' || (i == 0 || i == len(text)-1) && (text[i] == ' ' || text[i] == '\t') {
			text[i] = 'e'
		}
	}
	return string(text)
}

func grownNumber(r *rand.Rand) int {
	if r.Intn(4) == 0 {
		return picked(r, 0, 1, 2, 9, 10, 99, 100, math.MaxInt, math.MaxInt-1, math.MaxInt32, math.MaxInt32+1)
	}
	return int(r.Uint64() >> (1 + r.Intn(63)))
}

// grownCommand is one of which there is a line.
func grownCommand(r *rand.Rand) api.Command {
	c := api.Command{Kind: api.CommandKind(1 + r.Intn(22))}
	switch c.Kind {
	case api.CmBreak:
		c.Point = api.Point{Kind: api.PtFunc, Name: grownName(r)}
		if n := grownNumber(r); r.Intn(2) == 0 && n > 0 {
			c.Point = api.Point{Kind: api.PtLine, Line: n}
		}
	case api.CmWatch:
		c.Point = api.Point{Kind: api.PtWatch, Name: grownName(r)}
	case api.CmDelete, api.CmEnable, api.CmDisable:
		c.N = grownNumber(r)
	case api.CmGoto:
		c.N = picked(r, -1, 1) * grownNumber(r)
	case api.CmPrint:
		c.Text = grownExpr(r, 60)
	}
	if c.Point != (api.Point{}) && r.Intn(2) == 0 {
		c.Point.Cond = grownExpr(r, 60)
	}
	return c
}

// wordsOf are what stands in a command's line, an expression as one.
func wordsOf(c api.Command) []string {
	line, _ := textPlainly(c)
	switch {
	case c.Kind == api.CmPrint:
		return []string{"print", c.Text}
	case c.Point.Cond != "":
		return append(strings.Fields(strings.TrimSuffix(line, c.Point.Cond)), c.Point.Cond)
	}
	return strings.Fields(line)
}

func grownBlanks(r *rand.Rand, least int) string {
	blanks := make([]byte, least+r.Intn(4))
	for i := range blanks {
		blanks[i] = picked[byte](r, ' ', '\t')
	}
	return string(blanks)
}

// laid is a row of words with blanks between each two, ahead and behind.
func laid(r *rand.Rand, words []string) string {
	line := grownBlanks(r, 0)
	for n, word := range words {
		if n > 0 {
			line += grownBlanks(r, 1)
		}
		line += word
	}
	return line + grownBlanks(r, 0)
}

// P23.6: Parse of Text of a command is the command, and blanks make no difference.
func TestGrownCommands(t *testing.T) {
	r := rand.New(rand.NewSource(23))
	var kinds [api.CmEvent + 1]int
	for range seeds(60000) {
		c := grownCommand(r)
		if text, errno := heldCommand(t, c); errno != api.OK {
			t.Fatalf("Text(%+v) = %q, %d", c, text, errno)
		}
		kinds[c.Kind]++
		words := wordsOf(c)
		for range 3 {
			line := laid(r, words)
			if got, errno := heldLine(t, line); got != c || errno != api.OK {
				t.Fatalf("Parse(%q) = %+v, %d, want %+v", line, got, errno, c)
			}
		}
	}
	if slices.Contains(kinds[1:], 0) {
		t.Errorf("grown by kind: %v", kinds)
	}
}

// broken has something taken out, put in, or changed.
func broken(r *rand.Rand, line string) string {
	for range 1 + r.Intn(3) {
		at := r.Intn(len(line) + 1)
		end := min(len(line), at+r.Intn(3))
		piece := picked(r, "", "", " ", "\t", "\n", "if", " if ", "-", "0", "1", "x", "\r", "#", "\"", "break", "print ", string([]byte{byte(r.Intn(256))}))
		line = line[:at] + piece + line[end:]
	}
	return line
}

// P23.1, P23.6: lines that are nearly commands'.
func TestBrokenLines(t *testing.T) {
	r := rand.New(rand.NewSource(231))
	told := map[api.Errno]int{}
	for range seeds(150000) {
		_, errno := heldLine(t, broken(r, laid(r, wordsOf(grownCommand(r)))))
		told[errno]++
	}
	if all := seeds(150000); told[api.OK] < int(all)/10 || told[api.ErrCommand] < int(all)/10 {
		t.Errorf("told: %v", told)
	}
}

// P23.2, P23.6: commands that are nearly such as have a line.
func TestBrokenCommands(t *testing.T) {
	r := rand.New(rand.NewSource(232))
	told := map[api.Errno]int{}
	for range seeds(150000) {
		c := grownCommand(r)
		switch other := grownCommand(r); r.Intn(8) {
		case 0:
			c.Kind = other.Kind
		case 1:
			c.Point.Kind = picked(r, other.Point.Kind, api.PointKind(r.Intn(6)-1))
		case 2:
			c.Point.Name = picked(r, other.Point.Name, broken(r, c.Point.Name))
		case 3:
			c.Point.Line = picked(r, other.Point.Line, -c.Point.Line, -1, 0)
		case 4:
			c.Point.Cond = picked(r, other.Point.Cond, broken(r, c.Point.Cond))
		case 5:
			c.N = picked(r, other.N, -c.N, math.MinInt)
		case 6:
			c.Text = picked(r, other.Text, broken(r, c.Text))
		case 7:
			c.Point.Off = r.Intn(2) == 0
		}
		_, errno := heldCommand(t, c)
		told[errno]++
	}
	if all := seeds(150000); told[api.OK] < int(all)/10 || told[api.ErrArg] < int(all)/10 {
		t.Errorf("told: %v", told)
	}
}

// P23.2, P23.6: what Text tells has one blank between each two words and none ahead and behind, whatever the line had.
func TestCanonical(t *testing.T) {
	r := rand.New(rand.NewSource(233))
	for range seeds(20000) {
		words := wordsOf(grownCommand(r))
		c, _ := Parse(laid(r, words))
		if text, errno := Text(c); text != strings.Join(words, " ") || errno != api.OK {
			t.Fatalf("the words %q: Text is %q, %d", words, text, errno)
		}
	}
}

func grownLine(r *rand.Rand) string {
	line := make([]byte, r.Intn(12))
	for i := range line {
		line[i] = picked(r, []byte("anx09f \\\\\\\n\n\r\t\"\x00\xff")...)
		if r.Intn(4) == 0 {
			line[i] = byte(r.Intn(256))
		}
	}
	return string(line)
}

// P23.7: from the text of a response its Status and its Lines can be told.
func TestReadBack(t *testing.T) {
	r := rand.New(rand.NewSource(237))
	for range seeds(50000) {
		given := api.Response{Status: api.Errno(picked(r, 0, 1, 230, -1, int(r.Uint64()), math.MinInt)), Stop: api.Stop{Kind: api.StopKind(r.Intn(9)), At: r.Intn(9)}}
		for range r.Intn(5) {
			given.Lines = append(given.Lines, picked(r, grownLine(r), "ok", "error 1", "  ", ""))
		}
		text := Response(given)
		if want := responsePlainly(given); text != want {
			t.Fatalf("Response(%+v) = %q, want %q", given, text, want)
		}
		status, lines, fits := readBack(text)
		if !fits || status != int64(given.Status) || !slices.Equal(lines, given.Lines) {
			t.Fatalf("Response(%+v) = %q is read as %d, %q", given, text, status, lines)
		}
		if count := strings.Count(text, "\n"); count != 1+len(given.Lines) || !strings.HasSuffix(text, "\n") {
			t.Fatalf("Response(%+v) has %d lines", given, count)
		}
	}
}

// P23.3, P23.4: events and stops with any numbers.
func TestGrownNumbers(t *testing.T) {
	r := rand.New(rand.NewSource(234))
	any := func() int { return picked(r, int(r.Uint64()), r.Intn(12)-1, int(r.Uint64()>>40)) }
	for range seeds(50000) {
		e := api.Event{Kind: api.EventKind(r.Intn(11) - 1), Node: any(), Name: grownLine(r), Value: api.Value{Kind: api.ValueKind(r.Intn(7) - 1), Int: int64(any())}}
		if r.Intn(3) == 0 {
			e.Value = api.Value{Kind: api.ValText, Text: grownLine(r)}
		}
		if got, want := Event(e), eventPlainly(e); got != want {
			t.Fatalf("Event(%+v) = %q, want %q", e, got, want)
		}
		s, o := api.Stop{Kind: api.StopKind(r.Intn(9) - 1), At: any(), Point: any()}, api.Outcome{Phase: api.Phase(r.Intn(5) - 1), Trap: api.Trap(r.Intn(10) - 1)}
		if got, want := Stop(s, o), stopPlainly(s, o); got != want {
			t.Fatalf("Stop(%+v, %+v) = %q, want %q", s, o, got, want)
		}
		if n := any(); Stop(api.Stop{At: n}, o) != "at "+strconv.Itoa(n) {
			t.Fatalf("Stop at %d: %q", n, Stop(api.Stop{At: n}, o))
		}
	}
}
