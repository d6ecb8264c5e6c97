package command

import (
	"strconv"

	"retrace/api"
)

// written is what a command's line would have to say, word by word, an expression being one.
func written(c api.Command) []string {
	if c.Kind < 0 || int(c.Kind) >= len(rows) {
		return nil
	}
	words := []string{rows[c.Kind].word}
	switch rows[c.Kind].takes {
	case place, variable:
		return append(words, pointWords(c.Point)...)
	case number, position:
		return append(words, strconv.Itoa(c.N))
	case expression:
		return append(words, c.Text)
	}
	return words
}

func pointWords(p api.Point) []string {
	words := []string{p.Name}
	if p.Kind == api.PtLine {
		words[0] = strconv.Itoa(p.Line)
	}
	if p.Cond != "" {
		words = append(words, ifWord, p.Cond)
	}
	return words
}
