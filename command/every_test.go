package command

import (
	"math"
	"slices"
	"strings"
	"testing"

	"retrace/api"
)

// heldLine holds Parse of a line against the chapter's second writing, and goes there and back (P23.1, P23.2, P23.6).
func heldLine(t *testing.T, line string) (api.Command, api.Errno) {
	t.Helper()
	got, errno := Parse(line)
	if want, wanted := parsePlainly(line); got != want || errno != wanted {
		t.Fatalf("Parse(%q) = %+v, %d, want %+v, %d", line, got, errno, want, wanted)
	}
	if errno != api.OK {
		return got, errno
	}
	text, toldErrno := Text(got)
	if want, wanted := textPlainly(got); text != want || toldErrno != wanted || wanted != api.OK {
		t.Fatalf("Text(%+v) = %q, %d, want %q, %d", got, text, toldErrno, want, wanted)
	}
	if again, errno := Parse(text); again != got || errno != api.OK {
		t.Fatalf("%q gives %+v, its Text %q gives %+v, %d", line, got, text, again, errno)
	}
	if len(text) > len(line) {
		t.Fatalf("the Text %q is longer than %q", text, line)
	}
	return got, errno
}

// heldCommand holds Text of a command against the chapter's second writing, and goes there and back (P23.2, P23.6).
func heldCommand(t *testing.T, c api.Command) (string, api.Errno) {
	t.Helper()
	got, errno := Text(c)
	if want, wanted := textPlainly(c); got != want || errno != wanted {
		t.Fatalf("Text(%+v) = %q, %d, want %q, %d", c, got, errno, want, wanted)
	}
	if errno == api.OK {
		if again, errno := Parse(got); again != c || errno != api.OK {
			t.Fatalf("Text(%+v) = %q, of which Parse gives %+v, %d", c, got, again, errno)
		}
	}
	return got, errno
}

// eachRow tells all rows of at most length of the pieces.
func eachRow(pieces []string, length int, tell func(row []string)) {
	var grow func(row []string)
	grow = func(row []string) {
		tell(row)
		if len(row) == length {
			return
		}
		for _, piece := range pieces {
			grow(append(row, piece))
		}
	}
	grow(make([]string, 0, length))
}

// P23.1, P23.6: every row of up to five pieces, with nothing between them.
func TestEveryRowOfPieces(t *testing.T) {
	pieces := []string{"break", "watch", "goto", "print", "step", "delete", "if", "x", "2", "0", "-", " ", "\t", "\n", "\r"}
	length := 5
	if testing.Short() {
		length = 4
	}
	taken := 0
	eachRow(pieces, length, func(row []string) {
		if _, errno := heldLine(t, strings.Join(row, "")); errno == api.OK {
			taken++
		}
	})
	if taken < 100 {
		t.Errorf("only %d lines were commands", taken)
	}
}

// P23.1, P23.6: every row of up to four words, with one blank between each two, and behind break and watch with two more.
func TestEveryRowOfWords(t *testing.T) {
	words := []string{"break", "watch", "goto", "print", "step", "disable", "if", "x", "main", "2", "0", "02", "-", "-3", "-0", "+1", "ifx", "IF", "x\r", "#x", `"`, "9223372036854775807", "9223372036854775808", "-9223372036854775808"}
	length := 4
	if testing.Short() {
		length = 3
	}
	var taken [api.CmEvent + 1]int
	count := func(line string) {
		c, _ := heldLine(t, line)
		taken[c.Kind]++
	}
	eachRow(words, length, func(row []string) { count(strings.Join(row, " ")) })
	for _, word := range []string{"break", "watch"} {
		for _, place := range words {
			for _, third := range words {
				for _, fourth := range []string{"", "if", "x  y", "#", "\"\t\"", "2"} {
					count(strings.Join([]string{word, place, third, fourth}, " ") + "  z")
					count("\t" + strings.Join([]string{word, place, third, fourth}, "\t ") + " ")
				}
			}
		}
	}
	for kind := range taken {
		none := kind == 3 || kind == 4 || kind >= 17 || kind == 6 || kind >= 8 && kind <= 14
		if (taken[kind] == 0) != none {
			t.Errorf("commands of kind %d: %d", kind, taken[kind])
		}
	}
}

// P23.1: each of the 256 bytes at each place of a line: where one stands between words, ahead and behind, within a word, a number, a name and an expression.
func TestEveryByte(t *testing.T) {
	for _, line := range []string{"step", "goto 12", "goto -3", "delete 1", "break f1 if x", "watch a", "print a", "break 7 if \"a b\""} {
		for at := range len(line) + 1 {
			for b := range 256 {
				heldLine(t, line[:at]+string([]byte{byte(b)})+line[at:])
				if at < len(line) {
					heldLine(t, line[:at]+string([]byte{byte(b)})+line[at+1:])
				}
			}
		}
	}
	for b := range 256 {
		heldLine(t, string([]byte{byte(b)}))
		one := string([]byte{byte(b)})
		c, errno := Parse("print " + one)
		if blankOrFeed := b == 32 || b == 9 || b == 10; (errno == api.ErrCommand) != blankOrFeed || errno == api.OK && c.Text != one {
			t.Errorf("print and the byte %d: %+v, %d", b, c, errno)
		}
		c, errno = Parse("print a" + one + "b")
		if (errno == api.ErrCommand) != (b == 10) || errno == api.OK && c.Text != "a"+one+"b" {
			t.Errorf("the byte %d in an expression: %+v, %d", b, c, errno)
		}
	}
}

// somePoints are points that a command may have and that none may have, the zero point the first.
func somePoints() []api.Point {
	list := []api.Point{{}}
	for _, kind := range []api.PointKind{-1, 0, 1, 2, 3, 4} {
		for _, line := range []int{-1, 0, 1, 2, math.MaxInt} {
			for _, name := range []string{"", "f", "main", "if", "2", "f if x", "f ", "\tf", "f#", strings.Repeat("n", 25)} {
				for _, condition := range []string{"", "x", " x", "x ", "x  y", "if", "x\ny", "\t", "x\ty", "\"\xff\""} {
					p := api.Point{Kind: kind, Line: line, Name: name, Cond: condition}
					if p != list[0] {
						list = append(list, p)
					}
					p.Off = true
					list = append(list, p)
				}
			}
		}
	}
	return list
}

// P23.2, P23.6: every kind with points, numbers and texts that it may have and that it may not.
func TestEveryCommand(t *testing.T) {
	kinds := []api.CommandKind{math.MinInt, -1, 1<<32 + 1, math.MaxInt}
	for kind := range api.CmEvent + 2 {
		kinds = append(kinds, kind)
	}
	texts := []string{"", "a", " a", "a ", "a\t", "a b", "a\nb", "\n", "if", "\x00", "\"é\"", "a  +\tb"}
	numbers := []int{math.MinInt, math.MinInt + 1, -3, -1, 0, 1, 12, math.MaxInt}
	points := somePoints()
	var taken [api.CmEvent + 1]int
	for _, kind := range kinds {
		for _, n := range numbers {
			for _, text := range texts {
				for at, p := range points {
					if at > 0 && (n != 0 && n != 1 || text != "" && text != "a") {
						break
					}
					if _, errno := heldCommand(t, api.Command{Kind: kind, Point: p, N: n, Text: text}); errno == api.OK {
						taken[kind]++
					}
				}
			}
		}
	}
	// A break: of three lines and two names, a watch: of two names, each with the conditions "", x, x  y, if, x\ty and "\xff".
	// A number: 0, 1, 12 and the greatest, of a goto all but the least; a text: a, a b, if, the byte 0, "é" and a  +\tb.
	want := [api.CmEvent + 1]int{0, 30, 12, 4, 4, 4, 1, 1, 1, 1, 1, 1, 1, 1, 1, 7, 6, 1, 1, 1, 1, 1, 1}
	if taken != want {
		t.Errorf("taken by kind: %v, want %v", taken, want)
	}
}

// P23.3: every kind with nodes, names and values, those among them that may not be.
func TestEveryEvent(t *testing.T) {
	values := []api.Value{
		{}, {Int: 1}, {Text: "a"}, {Kind: 1}, {Kind: 1, Int: math.MinInt64}, {Kind: 1, Text: "a"}, {Kind: 2}, {Kind: 2, Int: 1}, {Kind: 2, Int: 2}, {Kind: 3}, {Kind: 3, Text: "a\n\"\\\x00\xff"}, {Kind: 3, Int: 1},
		{Kind: 3, Text: strings.Repeat("t", 256)}, {Kind: 3, Text: strings.Repeat("t", 257)}, {Kind: 4}, {Kind: 4, Int: 7}, {Kind: 4, Int: -1}, {Kind: 5}, {Kind: -1},
	}
	kinds := []api.EventKind{math.MinInt, math.MaxInt, 1<<32 + 1, 256 + 1, -1, 0, 1, 2, 3, 4, 5, 6, 7, 8, 9, 10}
	for _, kind := range kinds {
		for _, node := range []int{0, 1, -1, 12, math.MaxInt, math.MinInt} {
			for _, name := range []string{"", "x", "a b", "\n", "\xff"} {
				for _, v := range values {
					e := api.Event{Kind: kind, Node: node, Name: name, Value: v}
					if got, want := Event(e), eventPlainly(e); got != want {
						t.Fatalf("Event(%+v) = %q, want %q", e, got, want)
					}
				}
			}
		}
	}
}

// P23.4: every kind with every phase and trap, and such as are none.
func TestEveryStop(t *testing.T) {
	numbers := []int{math.MinInt, math.MaxInt, 1 << 32, 1<<32 + 3, -1, 0, 1, 2, 3, 4, 5, 6, 7, 8, 9}
	for _, kind := range numbers {
		for _, phase := range numbers {
			for _, trap := range numbers {
				for _, at := range []int{0, 12, -1, math.MinInt, math.MaxInt} {
					for _, point := range []int{0, 2, -1, math.MaxInt} {
						s, o := api.Stop{Kind: api.StopKind(kind), At: at, Point: point}, api.Outcome{Phase: api.Phase(phase), Trap: api.Trap(trap)}
						if got, want := Stop(s, o), stopPlainly(s, o); got != want {
							t.Fatalf("Stop(%+v, %+v) = %q, want %q", s, o, got, want)
						}
					}
				}
			}
		}
	}
}

// P23.5, P23.7: every byte of a line is told by bytes from 32 to 126, and every response of few short lines has a text of its own.
func TestEveryResponse(t *testing.T) {
	for b := range 256 {
		r := api.Response{Lines: []string{string([]byte{byte(b), 'z', byte(b)})}}
		got := Response(r)
		if want := responsePlainly(r); got != want {
			t.Errorf("the byte %d: %q, want %q", b, got, want)
		}
		for _, one := range []byte(strings.TrimSuffix(strings.TrimPrefix(got, "ok\n"), "\n")) {
			if one < 32 || one > 126 {
				t.Errorf("the byte %d is told with the byte %d", b, one)
			}
		}
	}
	var lines []string
	eachRow([]string{"a", "n", "x", "0", " ", "\\", "\n", "\x00"}, 2, func(row []string) { lines = append(lines, strings.Join(row, "")) })
	texts := make(map[string]api.Response)
	tell := func(r api.Response) {
		text := Response(r)
		if want := responsePlainly(r); text != want {
			t.Fatalf("Response(%+v) = %q, want %q", r, text, want)
		}
		if other, there := texts[text]; there {
			t.Fatalf("%+v and %+v have the text %q", r, other, text)
		}
		texts[text] = r
	}
	for _, status := range []api.Errno{0, 1, -1, 230, math.MaxInt, math.MinInt} {
		tell(api.Response{Status: status})
		for n, first := range lines {
			tell(api.Response{Status: status, Lines: []string{first}})
			for _, second := range lines {
				tell(api.Response{Status: status, Lines: []string{first, second}})
			}
			tell(api.Response{Status: status, Lines: []string{first, lines[(n*7)%len(lines)], first}})
		}
	}
}

// P23.5: a response's Stop makes no difference, nor whether an empty list is nil.
func TestNoStopInResponse(t *testing.T) {
	for _, lines := range [][]string{nil, {}, {"a"}, {"", ""}} {
		for _, status := range []api.Errno{0, 220} {
			want := Response(api.Response{Status: status, Lines: lines})
			for _, stop := range []api.Stop{{Kind: api.StopStep}, {At: 4}, {Kind: api.StopPoint, At: 12, Point: 1}, {Kind: 99, At: -1, Point: -1}} {
				if got := Response(api.Response{Status: status, Stop: stop, Lines: slices.Clone(lines)}); got != want {
					t.Errorf("with the Stop %+v: %q, want %q", stop, got, want)
				}
			}
		}
	}
	if Response(api.Response{Lines: []string{}}) != Response(api.Response{}) {
		t.Error("an empty list makes a difference")
	}
}
