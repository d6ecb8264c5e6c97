// Package source is layer 1: offsets, lines and columns of a text: see shared/doc/01-source.md.
package source

import (
	"iter"
	"strconv"
	"strings"

	"retrace/api"
)

const maxAround = 20

// Lines counts the lines of a text.
func Lines(text string) int {
	count := 0
	for range numberedLines(text) {
		count++
	}
	return count
}

// Where tells the place of an offset.
func Where(text string, at int) (api.Place, api.Errno) {
	if at < 0 || at > len(text) {
		return api.Place{}, api.ErrPlace
	}
	var place api.Place
	// What stands behind the offset has no say in its place, so the last line of the cut text ends at it.
	for n, line := range numberedLines(text[:at]) {
		place = api.Place{Line: n, Col: len(line) + 1}
	}
	return place, api.OK
}

// Offset tells the offset of a place.
func Offset(text string, p api.Place) (int, api.Errno) {
	start := 0
	for n, line := range numberedLines(text) {
		if n == p.Line {
			return offsetInLine(start, len(line), p.Col)
		}
		start += len(line) + 1
	}
	return 0, api.ErrPlace
}

// Line tells a line, without its end.
func Line(text string, n int) (string, api.Errno) {
	for number, line := range numberedLines(text) {
		if number == n {
			// A piece of the text would share its memory.
			return strings.Clone(line), api.OK
		}
	}
	return "", api.ErrPlace
}

// Excerpt tells the lines around an offset, numbered, with a mark below it.
func Excerpt(text string, at, around int) ([]string, api.Errno) {
	place, errno := Where(text, at)
	if errno != api.OK {
		return nil, errno
	}
	if around < 0 || around > maxAround {
		return nil, api.ErrArg
	}
	last := min(place.Line+around, Lines(text))
	width := len(strconv.Itoa(last))
	var shown []string
	for n, line := range numberedLines(text) {
		if n > last {
			break
		}
		if n < place.Line-around {
			continue
		}
		shown = append(shown, numberedRow(n, width, line))
		if n == place.Line {
			shown = append(shown, markRow(width, place.Col))
		}
	}
	return shown, api.OK
}

// numberedLines goes over the lines of a text, counted from 1, each without its line feed.
func numberedLines(text string) iter.Seq2[int, string] {
	return func(yield func(int, string) bool) {
		rest := text
		for n := 1; ; n++ {
			line, behind, more := strings.Cut(rest, "\n")
			if !yield(n, line) || !more {
				return
			}
			rest = behind
		}
	}
}

// offsetInLine takes one column more than the line has bytes: that of its line feed, or of the text's end.
func offsetInLine(start, length, col int) (int, api.Errno) {
	if col < 1 || col > length+1 {
		return 0, api.ErrPlace
	}
	return start + col - 1, api.OK
}

func numberedRow(n, width int, line string) string {
	digits := strconv.Itoa(n)
	row := blanks(width-len(digits)) + digits + " |"
	if line == "" {
		return row
	}
	return row + " " + asShown(line)
}

func markRow(width, col int) string {
	return blanks(width) + " | " + blanks(col-1) + "^"
}

func blanks(count int) string {
	return strings.Repeat(" ", count)
}

// asShown puts one byte for each byte, so that the mark's column stays right.
func asShown(line string) string {
	row := []byte(line)
	for i, b := range row {
		switch {
		case b == '\t':
			row[i] = ' '
		case b < 0x20 || b > 0x7e:
			row[i] = '.'
		}
	}
	return string(row)
}
