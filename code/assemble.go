package code

import (
	"strings"

	"retrace/api"
)

// noResult stands for the type of a result in the line of a function that has none.
const noResult = "-"

// A function's line has the most words: four and its slots'.
const mostWords = 4 + api.MaxSlots

// Assemble gives the code of assembler text, or the number of the first line that is wrong.
func Assemble(text string) (api.Code, api.Errno, int) {
	var a assembler
	rest := text
	for number := 1; rest != ""; number++ {
		line, behind, _ := strings.Cut(rest, "\n")
		words := wordsOf(line)
		if len(words) > 0 && !a.takes(words) {
			return api.Code{}, api.ErrLine, number
		}
		rest = behind
	}
	if a.lacks() {
		return api.Code{}, api.ErrLine, strings.Count(text, "\n") + 2
	}
	return a.code, api.OK, 0
}

// wordsOf parts a line into its words, of which those in quotes keep them, up to a comment. More words than any line may have are not gone through to their end.
func wordsOf(line string) []string {
	var words []string
	at := 0
scan:
	for at < len(line) && len(words) <= mostWords {
		switch line[at] {
		case ' ', '\t':
			at++
			continue
		case '#':
			break scan
		}
		start := at
		for at = quotesEnd(line, at); at < len(line); at++ {
			switch line[at] {
			case ' ', '\t', '#':
				words = append(words, line[start:at])
				continue scan
			}
		}
		words = append(words, line[start:])
	}
	return words
}

// quotesEnd tells the offset behind the quotes that begin at an offset: this one, if none do, and the line's end, if they have no end.
func quotesEnd(line string, at int) int {
	if line[at] != '"' {
		return at
	}
	for at++; at < len(line); at++ {
		switch line[at] {
		case '"':
			return at + 1
		case '\\':
			at++ // what stands behind it ends no quotes
		}
	}
	return len(line)
}

// assembler is a code of which some lines have been taken.
type assembler struct {
	code  api.Code
	begun bool // by the main line
}

// takes goes on by a line's words, one at least, or tells that they cannot stand here.
func (a *assembler) takes(words []string) bool {
	switch {
	case !a.begun:
		return a.takesMain(words)
	case words[0] == "pool":
		return a.takesPool(words)
	case words[0] == "fn":
		return a.takesEntry(words)
	}
	return a.takesInstr(words)
}

// lacks tells whether something is missing at the end.
func (a *assembler) lacks() bool {
	return !a.begun || a.code.Main >= len(a.code.Entrys) || a.isBare()
}

// isBare tells whether the last function has no instruction yet.
func (a *assembler) isBare() bool {
	last := len(a.code.Entrys) - 1
	return last >= 0 && a.code.Entrys[last].Start == len(a.code.Instrs)
}

func (a *assembler) takesMain(words []string) bool {
	if words[0] != "main" || len(words) != 2 {
		return false
	}
	main, ok := function.read(words[1])
	a.code.Main, a.begun = int(main), true
	return ok
}

func (a *assembler) takesPool(words []string) bool {
	if len(words) != 2 || len(a.code.Entrys) > 0 || len(a.code.Texts) == api.MaxTexts {
		return false
	}
	text, ok := readQuoted(words[1])
	a.code.Texts = append(a.code.Texts, text)
	return ok
}

func (a *assembler) takesEntry(words []string) bool {
	if len(a.code.Entrys) == api.MaxFuncs || len(a.code.Instrs) == api.MaxInstrs || a.isBare() {
		return false
	}
	e, ok := readEntry(words)
	e.Start = len(a.code.Instrs)
	a.code.Entrys = append(a.code.Entrys, e)
	return ok
}

func (a *assembler) takesInstr(words []string) bool {
	if len(a.code.Entrys) == 0 || len(a.code.Instrs) == api.MaxInstrs {
		return false
	}
	in, ok := readInstr(words)
	a.code.Instrs = append(a.code.Instrs, in)
	return ok
}

// readEntry reads a function's line, but for its Start.
func readEntry(words []string) (api.Entry, bool) {
	if len(words) < 4 {
		return api.Entry{}, false
	}
	count, ok := params.read(words[2])
	// A piece of the text would share its memory.
	e := api.Entry{Name: strings.Clone(words[1]), Params: int(count)}
	if words[3] != noResult {
		e.Result = readSort(words[3])
		ok = ok && e.Result != 0
	}
	for _, word := range words[4:] {
		e.Sorts = append(e.Sorts, readSort(word))
	}
	return e, ok && entryMayBe(e)
}

// readSort tells the sort of a type, or 0 for what is none.
func readSort(word string) api.Sort {
	for sort, name := range typeNames {
		if name == word {
			return api.Sort(sort)
		}
	}
	return 0
}

func readInstr(words []string) (api.Instr, bool) {
	for op, row := range instructions {
		if row.word != words[0] {
			continue
		}
		a, rest, fine := row.a.next(words[1:])
		b, rest, good := row.b.next(rest)
		return api.Instr{Op: api.Code8(op), A: a, B: b}, fine && good && len(rest) == 0
	}
	return api.Instr{}, false
}

// next reads an operand, if the table names one, off the words that are left.
func (o operand) next(words []string) (n int64, rest []string, ok bool) {
	switch {
	case o == none:
		return 0, words, true
	case len(words) == 0:
		return 0, nil, false
	}
	n, ok = o.read(words[0])
	return n, words[1:], ok
}

// readQuoted tells the text that a word in quotes says, and whether the word is one.
func readQuoted(word string) (string, bool) {
	var text []byte
	if word[0] != '"' {
		return "", false
	}
	at := 1
	for at < len(word) && word[at] != '"' {
		said, length := firstPiece(word[at:])
		if length == 0 || len(text) == api.MaxLiteral {
			return "", false
		}
		text = append(text, said)
		at += length
	}
	return string(text), at == len(word)-1
}

// firstPiece tells the byte that the piece at the beginning of rest says, and how long the piece is: 0, if none stands there. A quote does not come here: it would have ended the word.
func firstPiece(rest string) (byte, int) {
	switch {
	case rest[0] != '\\':
		if isPlain(rest[0]) {
			return rest[0], 1
		}
	case strings.HasPrefix(rest, `\n`):
		return '\n', 2
	case strings.HasPrefix(rest, `\"`), strings.HasPrefix(rest, `\\`):
		return rest[1], 2
	case strings.HasPrefix(rest, `\x`) && len(rest) >= 4:
		high := strings.IndexByte(hexDigits, rest[2])
		low := strings.IndexByte(hexDigits, rest[3])
		if high >= 0 && low >= 0 {
			return byte(high<<4 | low), 4
		}
	}
	return 0, 0
}
