package source

import (
	"fmt"
	"math"
	"slices"
	"strings"
	"testing"
	"unsafe"

	"retrace/api"
)

const sample = "ab\n\nc"

func place(line, col int) api.Place { return api.Place{Line: line, Col: col} }

// allTexts are all texts of at most the given length over a few bytes that stand for their kinds.
func allTexts(length int) []string {
	texts := []string{""}
	for begin, n := 0, 0; n < length; n++ {
		end := len(texts)
		for _, t := range texts[begin:end] {
			for _, b := range []string{"a", "\n", "\t", "\xff"} {
				texts = append(texts, t+b)
			}
		}
		begin = end
	}
	return texts
}

// longerTexts have line numbers of more than one digit, and lines of more than a few bytes.
func longerTexts() []string {
	return []string{
		strings.Repeat("x\n", 9) + "x",
		strings.Repeat("word\n\n", 60),
		strings.Repeat("\n", 120),
		"fn main() {\r\n\tprint \"ok\";\r\n}\r\n",
		"a\u00e9\u2028b\u0085\vc\f\n\x00\x7f~ ",
	}
}

// wherePlainly is the place of an offset, in the words of P1.2.
func wherePlainly(text string, at int) api.Place {
	below := text[:at]
	first := strings.LastIndexByte(below, '\n') + 1
	return place(strings.Count(below, "\n")+1, at-first+1)
}

// excerptPlainly is an excerpt, in the words of P1.5.
func excerptPlainly(text string, at, around int) []string {
	p := wherePlainly(text, at)
	lines := strings.Split(text, "\n")
	last := min(p.Line+around, len(lines))
	width := len(fmt.Sprint(last))
	var rows []string
	for n := max(1, p.Line-around); n <= last; n++ {
		row := fmt.Sprintf("%*d |", width, n)
		if len(lines[n-1]) > 0 {
			row += " "
		}
		for i := 0; i < len(lines[n-1]); i++ {
			switch b := lines[n-1][i]; {
			case b >= 0x20 && b <= 0x7e:
				row += string(rune(b))
			case b == 0x09:
				row += " "
			default:
				row += "."
			}
		}
		rows = append(rows, row)
		if n == p.Line {
			rows = append(rows, fmt.Sprintf("%*s | %*s", width, "", p.Col, "^"))
		}
	}
	return rows
}

func TestLinesCountsLineFeedsAndOne(t *testing.T) { // P1.1
	for text, want := range map[string]int{"": 1, "\n": 2, sample: 3, "a": 1, "a\n": 2, "\n\n\n": 4, "\r": 1, "a\r\nb": 2, "\u2028\u0085\v\f": 1} {
		if got := Lines(text); got != want {
			t.Errorf("P1.1: Lines(%q) = %d, want %d", text, got, want)
		}
	}
	for _, text := range append(allTexts(5), longerTexts()...) {
		if got, want := Lines(text), strings.Count(text, "\n")+1; got != want {
			t.Errorf("P1.1: Lines(%q) = %d, want %d", text, got, want)
		}
	}
}

func TestWhereOfEveryOffset(t *testing.T) { // P1.2
	for at, want := range []api.Place{place(1, 1), place(1, 2), place(1, 3), place(2, 1), place(3, 1), place(3, 2)} {
		if got, errno := Where(sample, at); got != want || errno != api.OK {
			t.Errorf("P1.2: Where(%q, %d) = %v, %d, want %v", sample, at, got, errno, want)
		}
	}
	for _, text := range append(allTexts(5), longerTexts()...) {
		for at := 0; at <= len(text); at++ {
			if got, errno := Where(text, at); got != wherePlainly(text, at) || errno != api.OK {
				t.Errorf("P1.2: Where(%q, %d) = %v, %d, want %v", text, at, got, errno, wherePlainly(text, at))
			}
		}
	}
}

func TestWhereRefusesWhatIsNoOffset(t *testing.T) { // P1.2
	for _, text := range append(allTexts(3), longerTexts()...) {
		for _, at := range []int{math.MinInt, -2, -1, len(text) + 1, len(text) + 2, math.MaxInt} {
			if got, errno := Where(text, at); got != (api.Place{}) || errno != api.ErrPlace {
				t.Errorf("P1.2: Where(%q, %d) = %v, %d, want ErrPlace", text, at, got, errno)
			}
		}
	}
}

func TestOffsetOfTheSample(t *testing.T) { // P1.3
	for p, want := range map[api.Place]int{place(1, 1): 0, place(1, 3): 2, place(2, 1): 3, place(3, 1): 4, place(3, 2): 5} {
		if got, errno := Offset(sample, p); got != want || errno != api.OK {
			t.Errorf("P1.3: Offset(%q, %v) = %d, %d, want %d", sample, p, got, errno, want)
		}
	}
	for _, p := range []api.Place{place(1, 4), place(2, 2), place(3, 3), place(4, 1), place(0, 1), place(1, 0), place(0, 0), place(-1, 1), place(1, -1), place(math.MinInt, 1), place(math.MaxInt, 1), place(3, math.MinInt), place(3, math.MaxInt)} {
		if got, errno := Offset(sample, p); got != 0 || errno != api.ErrPlace {
			t.Errorf("P1.3: Offset(%q, %v) = %d, %d, want ErrPlace", sample, p, got, errno)
		}
	}
}

func TestOffsetOfEveryPlaceAround(t *testing.T) { // P1.3, P1.6
	for _, text := range allTexts(4) {
		offsets := map[api.Place]int{}
		for at := 0; at <= len(text); at++ {
			offsets[wherePlainly(text, at)] = at
		}
		for line := -1; line <= len(text)+3; line++ {
			for col := -1; col <= len(text)+3; col++ {
				p := place(line, col)
				want, there := offsets[p]
				got, errno := Offset(text, p)
				if there && (got != want || errno != api.OK) || !there && (got != 0 || errno != api.ErrPlace) {
					t.Errorf("P1.3: Offset(%q, %v) = %d, %d, want %d, %v", text, p, got, errno, want, there)
				}
				if back, e := Where(text, got); there && (back != p || e != api.OK) {
					t.Errorf("P1.6: the place %v of %q is the offset %d, whose place is %v", p, text, got, back)
				}
			}
		}
	}
}

func TestLineIsItsBytes(t *testing.T) { // P1.4
	for _, text := range append(allTexts(5), longerTexts()...) {
		for i, want := range strings.Split(text, "\n") {
			if got, errno := Line(text, i+1); got != want || errno != api.OK {
				t.Errorf("P1.4: Line(%q, %d) = %q, %d, want %q", text, i+1, got, errno, want)
			}
		}
	}
}

func TestLineRefusesWhatIsNoLine(t *testing.T) { // P1.4
	for _, text := range append(allTexts(3), longerTexts()...) {
		behind := strings.Count(text, "\n") + 2
		for _, n := range []int{math.MinInt, -1, 0, behind, behind + 1, math.MaxInt} {
			if got, errno := Line(text, n); got != "" || errno != api.ErrPlace {
				t.Errorf("P1.4: Line(%q, %d) = %q, %d, want ErrPlace", text, n, got, errno)
			}
		}
	}
}

func TestExcerptOfTheExamples(t *testing.T) { // P1.5
	ten := strings.Repeat("x\n", 9) + "x"
	for _, c := range []struct {
		text       string
		at, around int
		want       []string
	}{
		{sample, 1, 0, []string{"1 | ab", "  |  ^"}},
		{sample, 2, 0, []string{"1 | ab", "  |   ^"}},
		{sample, 3, 1, []string{"1 | ab", "2 |", "  | ^", "3 | c"}},
		{sample, 0, 20, []string{"1 | ab", "  | ^", "2 |", "3 | c"}},
		{ten, len(ten) - 1, 1, []string{" 9 | x", "10 | x", "   | ^"}},
		{ten, 14, 1, []string{"7 | x", "8 | x", "  | ^", "9 | x"}},
		{"\t\x00\xffy", 3, 0, []string{"1 |  ..y", "  |    ^"}},
		{"\x1f ~\x7f\r", 5, 0, []string{"1 | . ~..", "  |      ^"}},
		{"\t", 0, 0, []string{"1 |  ", "  | ^"}},
		{"", 0, 0, []string{"1 |", "  | ^"}},
		{"\n", 1, 0, []string{"2 |", "  | ^"}},
	} {
		if got, errno := Excerpt(c.text, c.at, c.around); !slices.Equal(got, c.want) || errno != api.OK {
			t.Errorf("P1.5: Excerpt(%q, %d, %d) = %q, %d, want %q", c.text, c.at, c.around, got, errno, c.want)
		}
	}
}

func TestExcerptOfEveryOffset(t *testing.T) { // P1.5
	var every strings.Builder
	for b := range 256 {
		every.WriteByte(byte(b))
	}
	for _, text := range append(append(allTexts(4), longerTexts()...), every.String()) {
		for at := 0; at <= len(text); at++ {
			for _, around := range []int{0, 1, 2, 19, 20} {
				got, errno := Excerpt(text, at, around)
				if want := excerptPlainly(text, at, around); !slices.Equal(got, want) || errno != api.OK {
					t.Fatalf("P1.5: Excerpt(%q, %d, %d) = %q, %d, want %q", text, at, around, got, errno, want)
				}
			}
		}
	}
}

func TestExcerptRefusesInOrder(t *testing.T) { // P1.5
	for _, c := range []struct {
		at, around int
		want       api.Errno
	}{
		{-1, 0, api.ErrPlace}, {6, 0, api.ErrPlace}, {math.MinInt, 20, api.ErrPlace}, {math.MaxInt, 20, api.ErrPlace},
		{9, 21, api.ErrPlace}, {-1, -1, api.ErrPlace}, {6, math.MaxInt, api.ErrPlace},
		{1, 21, api.ErrArg}, {5, -1, api.ErrArg}, {0, math.MinInt, api.ErrArg}, {0, math.MaxInt, api.ErrArg},
	} {
		if got, errno := Excerpt(sample, c.at, c.around); len(got) != 0 || errno != c.want {
			t.Errorf("P1.5: Excerpt(%q, %d, %d) = %q, %d, want %d", sample, c.at, c.around, got, errno, c.want)
		}
	}
}

func TestPlacesRiseAndComeBack(t *testing.T) { // P1.6
	for _, text := range append(allTexts(5), longerTexts()...) {
		var before api.Place
		for at := 0; at <= len(text); at++ {
			p, _ := Where(text, at)
			if back, errno := Offset(text, p); back != at || errno != api.OK {
				t.Errorf("P1.6: the offset %d of %q is at %v, which is %d", at, text, p, back)
			}
			if p.Line < before.Line || p.Line == before.Line && p.Col <= before.Col {
				t.Errorf("P1.6: in %q the place %v comes behind %v", text, p, before)
			}
			before = p
		}
	}
}

func TestLinesJoinedAreTheText(t *testing.T) { // P1.6
	for _, text := range append(allTexts(5), longerTexts()...) {
		var lines []string
		for n := 1; n <= Lines(text); n++ {
			line, _ := Line(text, n)
			lines = append(lines, line)
		}
		if got := strings.Join(lines, "\n"); got != text {
			t.Errorf("P1.6: the lines of %q are %q", text, lines)
		}
	}
}

func TestCallsEndOnAnything(t *testing.T) { // P1.7
	numbers := []int{math.MinInt, math.MinInt + 1, -1, 0, 1, 2, 20, 21, math.MaxInt - 1, math.MaxInt}
	for _, text := range append(allTexts(2), longerTexts()...) {
		for _, a := range numbers {
			Where(text, a)
			Line(text, a)
			for _, b := range numbers {
				Offset(text, place(a, b))
				Excerpt(text, a, b)
			}
		}
	}
}

func TestLongTexts(t *testing.T) { // P1.1 to P1.5, P1.7: a text has any length
	for _, text := range []string{strings.Repeat("\n", 1<<20), strings.Repeat("x", 1<<20), strings.Repeat("xy\n", 1<<19)} {
		p, errno := Where(text, len(text))
		if p != wherePlainly(text, len(text)) || p.Line != Lines(text) || errno != api.OK {
			t.Errorf("P1.2: the end of a text of %d bytes is at %v, %d", len(text), p, errno)
		}
		if at, errno := Offset(text, p); at != len(text) || errno != api.OK {
			t.Errorf("P1.3: the end of a text of %d bytes is at the offset %d, %d", len(text), at, errno)
		}
		if line, errno := Line(text, p.Line); len(line) != p.Col-1 || errno != api.OK {
			t.Errorf("P1.4: the last line of a text of %d bytes has %d bytes, %d", len(text), len(line), errno)
		}
		if rows, errno := Excerpt(text, len(text), 20); len(rows) != min(p.Line, 21)+1 || errno != api.OK {
			t.Errorf("P1.5: the excerpt of a text of %d bytes has %d lines, %d", len(text), len(rows), errno)
		}
	}
}

func TestAnswersAreNewMemory(t *testing.T) { // P1.7
	want := []string{"1 | ab", "2 |", "  | ^", "3 | c"}
	first, _ := Excerpt(sample, 3, 1)
	second, _ := Excerpt(sample, 3, 1)
	for i := range first[:cap(first)] {
		first[:cap(first)][i] = "changed"
	}
	third, _ := Excerpt(sample, 3, 1)
	if !slices.Equal(second, want) || !slices.Equal(third, want) {
		t.Errorf("P1.7: a change of one excerpt is seen in another: %q, %q", second, third)
	}
	text := strings.Repeat("word\n", 3)
	for n := 1; n <= 3; n++ {
		line, _ := Line(text, n)
		begin, at := uintptr(unsafe.Pointer(unsafe.StringData(text))), uintptr(unsafe.Pointer(unsafe.StringData(line)))
		if at >= begin && at < begin+uintptr(len(text)) {
			t.Errorf("P1.7: line %d shares the text's memory", n)
		}
	}
}

func TestLinesAreGoneThroughAndLeftEarly(t *testing.T) { // the chapter's section Ways
	var seen []string
	for n, line := range numberedLines(sample) {
		seen = append(seen, fmt.Sprint(n, " ", line))
	}
	if want := []string{"1 ab", "2 ", "3 c"}; !slices.Equal(seen, want) {
		t.Errorf("the lines of %q are gone through as %q, want %q", sample, seen, want)
	}
	for stop := 1; stop <= 3; stop++ {
		count := 0
		for n := range numberedLines(sample) {
			count++
			if n == stop {
				break
			}
		}
		if count != stop {
			t.Errorf("left at line %d, the iterator gave %d lines", stop, count)
		}
	}
}
