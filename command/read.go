package command

import (
	"strings"

	"retrace/api"
	"retrace/lex"
)

// parts are a line's words, and the expression behind them, "" if there is none.
type parts struct {
	words []string
	expr  string
}

func hasLineFeed(line string) bool {
	for _, r := range line {
		if r == '\n' {
			return true
		}
	}
	return false
}

// taken takes a line's words; where an expression begins it takes no more, as blanks do not part an expression.
func taken(line string) parts {
	var p parts
	rest := withoutBlanks(line)
take:
	for rest != "" {
		end := wordEnd(rest)
		p.words = append(p.words, rest[:end])
		rest = withoutBlanks(rest[end:])
		switch {
		case len(p.words) == 1 && rows[kindOf(p.words[0])].takes == expression:
			break take
		case len(p.words) == 3 && p.words[2] == ifWord:
			break take
		}
	}
	p.expr = rest
	return p
}

// command reads the parts; the second answer tells whether they are a command's.
func (p parts) command() (api.Command, bool) {
	if len(p.words) == 0 {
		return api.Command{}, false
	}
	c := api.Command{Kind: kindOf(p.words[0])}
	fits := false
	switch rows[c.Kind].takes {
	case nothing:
		fits = len(p.words) == 1
	case place, variable:
		c.Point, fits = p.point(rows[c.Kind].takes)
	case number:
		c.N, fits = p.one(numberOf)
	case position:
		c.N, fits = p.one(positionOf)
	case expression:
		c.Text, fits = strings.Clone(p.expr), p.expr != ""
	}
	return c, fits
}

// one reads the word behind the first one, if it is the last.
func (p parts) one(read func(word string) (int, bool)) (int, bool) {
	if len(p.words) != 2 {
		return 0, false
	}
	return read(p.words[1])
}

// point reads the word behind the first one, with the condition behind it, if there is one: a third word with an expression behind it can be no other than the one that says so.
func (p parts) point(takes operand) (api.Point, bool) {
	if len(p.words) != 2 && (len(p.words) != 3 || p.expr == "") {
		return api.Point{}, false
	}
	token := whole(p.words[1])
	switch {
	case token.Kind == api.TokName && takes == variable:
		return api.Point{Kind: api.PtWatch, Name: token.Text, Cond: strings.Clone(p.expr)}, true
	case token.Kind == api.TokName:
		return api.Point{Kind: api.PtFunc, Name: token.Text, Cond: strings.Clone(p.expr)}, true
	case token.Kind == api.TokNumber && token.Int >= 1 && takes == place:
		return api.Point{Kind: api.PtLine, Line: int(token.Int), Cond: strings.Clone(p.expr)}, true
	}
	return api.Point{}, false
}

func positionOf(word string) (int, bool) {
	digits, below := strings.CutPrefix(word, "-")
	n, fits := numberOf(digits)
	if below {
		return -n, fits && n >= 1
	}
	return n, fits
}

func numberOf(word string) (int, bool) {
	token := whole(word)
	return int(token.Int), token.Kind == api.TokNumber
}

// whole is the token that is all of a word; the end's, if there is none.
func whole(word string) api.Token {
	tokens, problem := lex.Scan(word)
	if problem.Code != api.OK || tokens[0].At != 0 || tokens[0].End != len(word) {
		return api.Token{}
	}
	return tokens[0]
}

// kindOf tells the kind of the commands that begin with a word; 0, of which no word is, if there is none.
func kindOf(word string) api.CommandKind {
	for kind, row := range rows {
		if row.word == word {
			return api.CommandKind(kind)
		}
	}
	return 0
}

// withoutBlanks is a text without the blanks ahead and behind.
func withoutBlanks(text string) string {
	for text != "" && isBlank(text[0]) {
		text = text[1:]
	}
	for text != "" && isBlank(text[len(text)-1]) {
		text = text[:len(text)-1]
	}
	return text
}

func wordEnd(text string) int {
	end := 0
	for end < len(text) && !isBlank(text[end]) {
		end++
	}
	return end
}

func isBlank(b byte) bool { return b == ' ' || b == '\t' }
