package command

import (
	"fmt"
	"math/big"
	"regexp"
	"strings"

	"retrace/api"
)

// This file says the chapter a second time, by other means: a line is held against patterns as a whole, a command's fields are asked one by one, what is told is made by fmt.

const keywords = " fn var if else while for to break continue return print read true false int bool text new len str "

const (
	blank      = `[ \t]`
	nameForm   = `([a-zA-Z][a-zA-Z0-9_]{0,23})`
	numberForm = `(0|[1-9][0-9]*)`
	exprForm   = `([^ \t\n](?:[^\n]*[^ \t\n])?)`
	condForm   = `(?:` + blank + `+if` + blank + `+` + exprForm + `)?`
)

// whole line: blanks, the word, blanks and what follows, blanks.
func pattern(word, behind string) *regexp.Regexp {
	if behind != "" {
		behind = blank + `+` + behind
	}
	return regexp.MustCompile(`\A` + blank + `*` + word + behind + blank + `*\z`)
}

type linePattern struct {
	kind api.CommandKind
	word string
	form *regexp.Regexp
	read func(c *api.Command, found []string) bool
}

var linePatterns = allPatterns()

func allPatterns() []linePattern {
	list := []linePattern{
		{api.CmBreak, "break", pattern("break", numberForm+condForm), func(c *api.Command, found []string) bool {
			n, fits := numberPlainly(found[1])
			c.Point = api.Point{Kind: api.PtLine, Line: n, Cond: found[2]}
			return fits && n > 0
		}},
		{api.CmBreak, "break", pattern("break", nameForm+condForm), func(c *api.Command, found []string) bool {
			c.Point = api.Point{Kind: api.PtFunc, Name: found[1], Cond: found[2]}
			return !isKeyword(found[1])
		}},
		{api.CmWatch, "watch", pattern("watch", nameForm+condForm), func(c *api.Command, found []string) bool {
			c.Point = api.Point{Kind: api.PtWatch, Name: found[1], Cond: found[2]}
			return !isKeyword(found[1])
		}},
		{api.CmGoto, "goto", pattern("goto", numberForm), readNumber},
		{api.CmGoto, "goto", pattern("goto", "-"+numberForm), func(c *api.Command, found []string) bool {
			fits := readNumber(c, found) && c.N > 0
			c.N = -c.N
			return fits
		}},
		{api.CmPrint, "print", pattern("print", exprForm), func(c *api.Command, found []string) bool {
			c.Text = found[1]
			return true
		}},
	}
	for n, word := range []string{"delete", "enable", "disable"} {
		list = append(list, linePattern{api.CmDelete + api.CommandKind(n), word, pattern(word, numberForm), readNumber})
	}
	for kind, word := range bareWords {
		list = append(list, linePattern{kind, word, pattern(word, ""), func(*api.Command, []string) bool { return true }})
	}
	return list
}

var bareWords = map[api.CommandKind]string{
	6: "points", 7: "step", 8: "next", 9: "finish", 10: "continue", 11: "back", 12: "rnext", 13: "rfinish", 14: "rcontinue",
	17: "locals", 18: "stack", 19: "where", 20: "list", 21: "output", 22: "event",
}

func readNumber(c *api.Command, found []string) (fits bool) {
	c.N, fits = numberPlainly(found[1])
	return fits
}

func numberPlainly(digits string) (int, bool) {
	n, _ := new(big.Int).SetString(digits, 10)
	return int(n.Int64()), n.IsInt64()
}

func isKeyword(word string) bool { return strings.Contains(keywords, " "+word+" ") }

// asRunes has a rune for each byte, so that a pattern goes by bytes; asBytes is the way back.
func asRunes(text string) string {
	runes := make([]rune, len(text))
	for i := range len(text) {
		runes[i] = rune(text[i])
	}
	return string(runes)
}

func asBytes(text string) string {
	var bytes []byte
	for _, r := range text {
		bytes = append(bytes, byte(r))
	}
	return string(bytes)
}

func parsePlainly(line string) (api.Command, api.Errno) {
	if len(line) >= 301 {
		return api.Command{}, 230
	}
	for _, p := range linePatterns {
		if !strings.Contains(line, p.word) { // to be quicker
			continue
		}
		found := p.form.FindStringSubmatch(asRunes(line))
		if found == nil {
			continue
		}
		for n := range found {
			found[n] = asBytes(found[n])
		}
		c := api.Command{Kind: p.kind}
		if p.read(&c, found) {
			return c, 0
		}
	}
	return api.Command{}, 230
}

// isExpr tells whether a text can stand as an expression in a line.
func isExpr(text string) bool {
	return text != "" && strings.Trim(text, " \t") == text && !strings.Contains(text, "\n")
}

var isWholeName = regexp.MustCompile(`\A` + nameForm + `\z`)

func textPlainly(c api.Command) (string, api.Errno) {
	line, may := "", false
	p := c.Point
	name := isWholeName.MatchString(p.Name) && !isKeyword(p.Name) && p.Line == 0
	noPoint, noNumber, noText := p == api.Point{}, c.N == 0, c.Text == ""
	switch {
	case c.Kind == 1 && p.Kind == 1:
		line, may = fmt.Sprintf("break %d", p.Line), p.Line >= 1 && p.Name == "" && noNumber && noText
	case c.Kind == 1 && p.Kind == 2:
		line, may = "break "+p.Name, name && noNumber && noText
	case c.Kind == 2 && p.Kind == 3:
		line, may = "watch "+p.Name, name && noNumber && noText
	case c.Kind >= 3 && c.Kind <= 5:
		line, may = fmt.Sprintf("%s %d", []string{"delete", "enable", "disable"}[c.Kind-3], c.N), c.N >= 0 && noPoint && noText
	case c.Kind == 15:
		line, may = fmt.Sprintf("goto %d", c.N), c.N != -1<<63 && noPoint && noText
	case c.Kind == 16:
		line, may = "print "+c.Text, isExpr(c.Text) && noPoint && noNumber
	case bareWords[c.Kind] != "":
		line, may = bareWords[c.Kind], noPoint && noNumber && noText
	}
	if p.Cond != "" {
		line, may = line+" if "+p.Cond, may && isExpr(p.Cond)
	}
	if !may || p.Off || len(line) >= 301 {
		return "", 1
	}
	return line, 0
}

func showPlainly(v api.Value) string {
	bare := v.Text == ""
	switch {
	case v == api.Value{}:
		return "-"
	case v.Kind == 1 && bare:
		return fmt.Sprint(v.Int)
	case v.Kind == 2 && bare && (v.Int == 0 || v.Int == 1):
		return fmt.Sprint(v.Int == 1)
	case v.Kind == 3 && v.Int == 0 && len(v.Text) <= 256:
		return `"` + strings.ReplaceAll(escaped(v.Text), `"`, `\"`) + `"`
	case v.Kind == 4 && bare && v.Int >= 0:
		return fmt.Sprintf("#%d", v.Int)
	}
	return "?"
}

func eventPlainly(e api.Event) string {
	shown := showPlainly(e.Value)
	switch e.Kind {
	case 1:
		return fmt.Sprintf("stmt %d", e.Node)
	case 2:
		return fmt.Sprintf("enter %d", e.Node)
	case 3:
		return fmt.Sprintf("exit %d", e.Node)
	case 4:
		return fmt.Sprintf("call %d %s", e.Node, e.Name)
	case 5:
		return fmt.Sprintf("leave %d", e.Node)
	case 6:
		if e.Value.Kind == 0 {
			return fmt.Sprintf("return %d", e.Node)
		}
		return fmt.Sprintf("return %d = %s", e.Node, shown)
	case 7:
		return fmt.Sprintf("set %d %s = %s", e.Node, e.Name, shown)
	case 8:
		return fmt.Sprintf("touch %d %s = %s", e.Node, e.Name, shown)
	}
	return "?"
}

func stopPlainly(s api.Stop, o api.Outcome) string {
	behind := ": ?"
	trap := map[api.Trap]string{1: "divide", 2: "index", 3: "depth", 4: "heap", 5: "input", 6: "long", 7: "stuck"}[o.Trap]
	if trap == "" {
		trap = "?"
	}
	switch {
	case s.Kind == 0:
		behind = ""
	case s.Kind == 1:
		behind = ": step"
	case s.Kind == 2:
		behind = fmt.Sprintf(": point %d", s.Point)
	case s.Kind == 3 && o.Phase == 1:
		behind = ": ended"
	case s.Kind == 3 && o.Phase == 2:
		behind = ": trap " + trap
	case s.Kind == 3:
		behind = ": running"
	case s.Kind == 4:
		behind = ": start"
	case s.Kind == 5:
		behind = ": budget"
	case s.Kind == 6:
		behind = ": goto"
	}
	return fmt.Sprintf("at %d%s", s.At, behind)
}

func escaped(line string) string {
	told := ""
	for _, b := range []byte(line) {
		switch {
		case b == 10:
			told += `\n`
		case b == 92:
			told += `\\`
		case b < 32 || b > 126:
			told += fmt.Sprintf(`\x%02x`, b)
		default:
			told += string(rune(b))
		}
	}
	return told
}

func responsePlainly(r api.Response) string {
	text := "ok\n"
	if r.Status != 0 {
		text = fmt.Sprintf("error %d\n", r.Status)
	}
	for _, line := range r.Lines {
		text += "  " + escaped(line) + "\n"
	}
	return text
}

var errorLine = regexp.MustCompile(`\Aerror (-?[0-9]+)\z`)

// readBack is the way back from a response's text: what has none is told by false.
func readBack(text string) (status int64, lines []string, fits bool) {
	rows := strings.Split(text, "\n")
	if len(rows) < 2 || rows[len(rows)-1] != "" {
		return 0, nil, false
	}
	if found := errorLine.FindStringSubmatch(rows[0]); found != nil {
		fmt.Sscan(found[1], &status)
	} else if rows[0] != "ok" {
		return 0, nil, false
	}
	for _, row := range rows[1 : len(rows)-1] {
		line, fits := unescaped(strings.TrimPrefix(row, "  "))
		if !fits || !strings.HasPrefix(row, "  ") {
			return 0, nil, false
		}
		lines = append(lines, line)
	}
	return status, lines, true
}

func unescaped(told string) (string, bool) {
	var line []byte
	for told != "" {
		var b byte
		switch {
		case strings.HasPrefix(told, `\n`):
			b, told = 10, told[2:]
		case strings.HasPrefix(told, `\\`):
			b, told = 92, told[2:]
		case strings.HasPrefix(told, `\x`) && len(told) >= 4:
			if _, err := fmt.Sscanf(told[2:4], "%02x", &b); err != nil {
				return "", false
			}
			told = told[4:]
		default:
			b, told = told[0], told[1:]
		}
		line = append(line, b)
	}
	return string(line), true
}
