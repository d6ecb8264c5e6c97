package code

import "retrace/api"

const hexDigits = "0123456789abcdef"

// Print gives a code's assembler text.
func Print(c api.Code) (string, api.Errno) {
	if errno := Valid(c); errno != api.OK {
		return "", errno
	}
	text := appendLine(nil, "main", function.word(int64(c.Main)))
	for _, said := range c.Texts {
		text = appendLine(text, "pool", quoted(said))
	}
	next := 0 // the function whose line comes next
	for n, in := range c.Instrs {
		if next < len(c.Entrys) && c.Entrys[next].Start == n {
			text = appendLine(text, entryWords(c.Entrys[next])...)
			next++
		}
		text = appendLine(append(text, "  "...), instrWords(in)...)
	}
	return string(text), api.OK
}

func appendLine(text []byte, words ...string) []byte {
	for i, word := range words {
		if i > 0 {
			text = append(text, ' ')
		}
		text = append(text, word...)
	}
	return append(text, '\n')
}

func entryWords(e api.Entry) []string {
	result := noResult
	if e.Result != 0 {
		result = typeNames[e.Result]
	}
	words := []string{"fn", e.Name, params.word(int64(e.Params)), result}
	for _, sort := range e.Sorts {
		words = append(words, typeNames[sort])
	}
	return words
}

func instrWords(in api.Instr) []string {
	row := instructions[in.Op]
	words := []string{row.word}
	if row.a != none {
		words = append(words, row.a.word(in.A))
	}
	if row.b != none {
		words = append(words, row.b.word(in.B))
	}
	return words
}

// quoted gives a text as it stands in a source.
func quoted(text string) string {
	word := []byte{'"'}
	for i := range len(text) {
		word = appendPiece(word, text[i])
	}
	return string(append(word, '"'))
}

func appendPiece(word []byte, b byte) []byte {
	switch {
	case b == '\n':
		return append(word, '\\', 'n')
	case b == '"' || b == '\\':
		return append(word, '\\', b)
	case isPlain(b):
		return append(word, b)
	}
	return append(word, '\\', 'x', hexDigits[b>>4], hexDigits[b&15])
}

// isPlain tells the bytes that need no number: a quote and a backslash are among them, as they are told by a backslash alone.
func isPlain(b byte) bool {
	return 32 <= b && b <= 126
}
