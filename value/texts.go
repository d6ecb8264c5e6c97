package value

import (
	"strconv"
	"strings"

	"retrace/api"
)

const hexDigits = "0123456789abcdef"

// Str gives a value's text, as print and str give it.
func Str(v api.Value) string {
	if !Valid(v) {
		return ""
	}
	switch v.Kind {
	case api.ValInt:
		return strconv.FormatInt(v.Int, 10)
	case api.ValBool:
		return strconv.FormatBool(v.Int == 1)
	case api.ValText:
		// The value's own text would share its memory.
		return strings.Clone(v.Text)
	}
	return ""
}

// Show gives a value as the debugger shows it.
func Show(v api.Value) string {
	if !Valid(v) {
		return "?"
	}
	switch v.Kind {
	case api.ValText:
		return quoted(v.Text)
	case api.ValRef:
		return "#" + strconv.FormatInt(v.Int, 10)
	case api.ValNone:
		return "-"
	}
	return Str(v)
}

// quoted is a text as it stands in a source.
func quoted(text string) string {
	shown := []byte{'"'}
	for i := range len(text) {
		shown = appendShown(shown, text[i])
	}
	return string(append(shown, '"'))
}

func appendShown(shown []byte, b byte) []byte {
	switch {
	case b == '\n':
		return append(shown, '\\', 'n')
	case b == '"' || b == '\\':
		return append(shown, '\\', b)
	case 32 <= b && b <= 126:
		return append(shown, b)
	}
	return append(shown, '\\', 'x', hexDigits[b>>4], hexDigits[b&15])
}
