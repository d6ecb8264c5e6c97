package code

import (
	"bytes"
	"encoding/binary"
	"fmt"
	"io"
	"math"
	"math/big"
	"regexp"
	"strings"

	"retrace/api"
)

// The chapter written out a second time: by other means, as plainly as may be.

// row is a line of the chapter's table: what each operand may be, and in how many bytes it stands (0: it is not named).
type row struct {
	number        int
	word          string
	least, most   int64
	width         int
	leastB, mostB int64
	widthB        int
}

var rows = []row{
	{number: 0, word: "nop"}, {number: 6, word: "pop"}, {number: 12, word: "ret"}, {number: 13, word: "done"}, {number: 15, word: "get"}, {number: 16, word: "put"}, {number: 17, word: "len"}, {number: 18, word: "str"}, {number: 20, word: "read"},
	{1, "int", math.MinInt64, math.MaxInt64, 8, 0, 0, 0},
	{2, "bool", 0, 1, 1, 0, 0, 0},
	{3, "text", 0, 3999, 2, 0, 0, 0},
	{4, "load", 0, 249, 1, 0, 0, 0},
	{5, "store", 0, 249, 1, 0, 0, 0},
	{7, "un", 1, 2, 1, 0, 0, 0},
	{8, "bin", 3, 13, 1, 0, 0, 0},
	{9, "jump", 0, 59999, 4, 0, 0, 0},
	{10, "false", 0, 59999, 4, 0, 0, 0},
	{11, "call", 0, 59, 1, 0, 0, 0},
	{14, "new", 1, 15, 1, 0, 0, 0},
	{19, "print", 1, 16, 1, 0, 0, 0},
	{21, "emit", 1, 40000, 2, 0, 0, 0},
	{23, "tell", 1, 40000, 2, 0, 0, 0},
	{22, "show", 1, 40000, 2, 0, 249, 1},
}

func rowOf(op api.Code8) (row, bool) {
	for _, r := range rows {
		if r.number == int(op) {
			return r, true
		}
	}
	return row{}, false
}

func (r row) has(in api.Instr) bool {
	return r.least <= in.A && in.A <= r.most && r.leastB <= in.B && in.B <= r.mostB && (r.word != "new" || in.A%4 != 0)
}

func isSort(s api.Sort) bool { return s >= 1 && s <= 19 && s%4 != 0 }

func sortText(s api.Sort) string {
	if s > 4 {
		return "[" + sortText(s-4) + "]"
	}
	return [...]string{"-", "int", "bool", "text"}[s]
}

var nameForm = regexp.MustCompile(`\A[a-zA-Z][a-zA-Z0-9_]{0,23}\z`)

// wantedValid is P13.1.
func wantedValid(c api.Code) api.Errno {
	if len(c.Entrys) > 60 || len(c.Instrs) > 60000 || len(c.Texts) > 4000 {
		return api.ErrSize
	}
	fine := len(c.Entrys) >= 1 && c.Main >= 0 && c.Main < len(c.Entrys)
	for i, e := range c.Entrys {
		fine = fine && nameForm.MatchString(e.Name) && len(e.Sorts) <= 250 && e.Params >= 0 && e.Params <= 8 && e.Params <= len(e.Sorts) && (e.Result == 0 || isSort(e.Result))
		for _, s := range e.Sorts {
			fine = fine && isSort(s)
		}
		fine = fine && (i > 0 || e.Start == 0) && (i == 0 || e.Start > c.Entrys[i-1].Start) && e.Start < len(c.Instrs)
	}
	for _, in := range c.Instrs {
		r, known := rowOf(in.Op)
		fine = fine && known && r.has(in)
	}
	for _, s := range c.Texts {
		fine = fine && len(s) <= 200
	}
	if !fine {
		return api.ErrCode
	}
	return api.OK
}

// wantedBytes is P13.2, of a code that may be.
func wantedBytes(c api.Code) string {
	var b bytes.Buffer
	put := func(width int, n int64) {
		var all [8]byte
		binary.BigEndian.PutUint64(all[:], uint64(n))
		b.Write(all[8-width:])
	}
	put(1, 0x43)
	put(1, int64(c.Main))
	put(1, int64(len(c.Entrys)))
	for _, e := range c.Entrys {
		put(1, int64(len(e.Name)))
		b.WriteString(e.Name)
		put(4, int64(e.Start))
		put(1, int64(e.Params))
		put(1, int64(len(e.Sorts)))
		for _, s := range e.Sorts {
			put(1, int64(s))
		}
		put(1, int64(e.Result))
	}
	put(2, int64(len(c.Texts)))
	for _, s := range c.Texts {
		put(1, int64(len(s)))
		b.WriteString(s)
	}
	put(4, int64(len(c.Instrs)))
	for _, in := range c.Instrs {
		r, _ := rowOf(in.Op)
		put(1, int64(in.Op))
		put(r.width, in.A)
		put(r.widthB, in.B)
	}
	return b.String()
}

// wantedDecode is P13.3: what these bytes would be if they were a code's, if they are.
func wantedDecode(text string) (c api.Code, errno api.Errno) {
	defer func() {
		if recover() != nil {
			c, errno = api.Code{}, api.ErrCode
		}
	}()
	b := strings.NewReader(text)
	take := func(n int) []byte {
		piece := make([]byte, n)
		if _, err := io.ReadFull(b, piece); err != nil {
			panic(err)
		}
		return piece
	}
	get := func(width int) int64 {
		all := make([]byte, 8)
		copy(all[8-width:], take(width))
		return int64(binary.BigEndian.Uint64(all))
	}
	if get(1) != 0x43 {
		panic("no code")
	}
	c.Main = int(get(1))
	c.Entrys = make([]api.Entry, get(1))
	for i := range c.Entrys {
		e := &c.Entrys[i]
		e.Name = string(take(int(get(1))))
		e.Start = int(get(4))
		e.Params = int(get(1))
		e.Sorts = make([]api.Sort, get(1))
		for j := range e.Sorts {
			e.Sorts[j] = api.Sort(get(1))
		}
		e.Result = api.Sort(get(1))
	}
	c.Texts = make([]string, get(2))
	for i := range c.Texts {
		c.Texts[i] = string(take(int(get(1))))
	}
	for range get(4) {
		in := api.Instr{Op: api.Code8(get(1))}
		r, known := rowOf(in.Op)
		if !known {
			panic("no instruction")
		}
		in.A = get(r.width)
		in.B = get(r.widthB)
		c.Instrs = append(c.Instrs, in)
	}
	if b.Len() > 0 || wantedValid(c) != api.OK {
		panic("no code")
	}
	return c, api.OK
}

var signText = map[int64]string{1: "-", 2: "!", 3: "+", 4: "-", 5: "*", 6: "/", 7: "%", 8: "==", 9: "!=", 10: "<", 11: "<=", 12: ">", 13: ">="}

func quoteText(s string) string {
	out := ""
	for _, b := range []byte(s) {
		switch {
		case b == 10:
			out += `\n`
		case b == 34:
			out += `\"`
		case b == 92:
			out += `\\`
		case b >= 32 && b <= 126:
			out += string(rune(b))
		default:
			out += fmt.Sprintf(`\x%02x`, b)
		}
	}
	return `"` + out + `"`
}

func instrText(in api.Instr) string {
	r, _ := rowOf(in.Op)
	switch r.word {
	case "bool":
		return fmt.Sprintf("  bool %v", in.A == 1)
	case "un", "bin":
		return "  " + r.word + " " + signText[in.A]
	case "new":
		return "  new " + sortText(api.Sort(in.A))
	case "show":
		return fmt.Sprintf("  show %d %d", in.A, in.B)
	}
	if r.width == 0 {
		return "  " + r.word
	}
	return fmt.Sprintf("  %s %d", r.word, in.A)
}

// wantedText is P13.4, of a code that may be.
func wantedText(c api.Code) string {
	lines := []string{fmt.Sprintf("main %d", c.Main)}
	for _, s := range c.Texts {
		lines = append(lines, "pool "+quoteText(s))
	}
	for i, e := range c.Entrys {
		line := fmt.Sprintf("fn %s %d %s", e.Name, e.Params, sortText(e.Result))
		for _, s := range e.Sorts {
			line += " " + sortText(s)
		}
		lines = append(lines, line)
		end := len(c.Instrs)
		if i+1 < len(c.Entrys) {
			end = c.Entrys[i+1].Start
		}
		for _, in := range c.Instrs[e.Start:end] {
			lines = append(lines, instrText(in))
		}
	}
	return strings.Join(lines, "\n") + "\n"
}

const (
	quotes = `"(?:[ !#-\[\]-~]|\\n|\\"|\\\\|\\x[0-9a-f][0-9a-f])*"`
	word   = `(?:` + quotes + `|[^ \t"#]+)`
	number = `(0|-?[1-9][0-9]*)`
	typing = `(int|bool|text|\[int\]|\[bool\]|\[text\]|\[\[int\]\]|\[\[bool\]\]|\[\[text\]\]|\[\[\[int\]\]\]|\[\[\[bool\]\]\]|\[\[\[text\]\]\]|\[\[\[\[int\]\]\]\]|\[\[\[\[bool\]\]\]\]|\[\[\[\[text\]\]\]\])`
)

var (
	anyLine   = regexp.MustCompile(`(?s)\A[ \t]*(` + word + `(?:[ \t]+` + word + `)*)?[ \t]*(?:#.*)?\z`)
	anyWord   = regexp.MustCompile(`(?s)` + word)
	mainLine  = regexp.MustCompile(`\Amain ` + number + `\z`)
	poolLine  = regexp.MustCompile(`\Apool (` + quotes + `)\z`)
	entryLine = regexp.MustCompile(`\Afn ([a-zA-Z][a-zA-Z0-9_]*) ` + number + ` (-|` + typing + `)((?: ` + typing + `)*)\z`)
	noneLine  = regexp.MustCompile(`\A(nop|pop|ret|done|get|put|len|str|read)\z`)
	oneLine   = regexp.MustCompile(`\A(int|text|load|store|jump|false|call|print|emit|tell) ` + number + `\z`)
	truthLine = regexp.MustCompile(`\Abool (true|false)\z`)
	unLine    = regexp.MustCompile(`\Aun ([-!])\z`)
	binLine   = regexp.MustCompile(`\Abin ([-+*/%]|==|!=|<|<=|>|>=)\z`)
	newLine   = regexp.MustCompile(`\Anew ` + typing + `\z`)
	showLine  = regexp.MustCompile(`\Ashow ` + number + ` ` + number + `\z`)
	onePiece  = regexp.MustCompile(`\\n|\\"|\\\\|\\x[0-9a-f][0-9a-f]|.`)
)

func numberOf(digits string) (int64, bool) {
	n, _ := new(big.Int).SetString(digits, 10)
	return n.Int64(), n.IsInt64()
}

func sortOf(typing string) api.Sort {
	brackets := strings.Count(typing, "[")
	return api.Sort(4*brackets) + map[string]api.Sort{"int": 1, "bool": 2, "text": 3}[strings.Trim(typing, "[]")]
}

func unquote(quoted string) string {
	var out []byte
	for _, piece := range onePiece.FindAllString(quoted[1:len(quoted)-1], -1) {
		switch {
		case piece == `\n`:
			out = append(out, 10)
		case len(piece) == 4:
			var b byte
			fmt.Sscanf(piece, `\x%02x`, &b)
			out = append(out, b)
		default:
			out = append(out, piece[len(piece)-1])
		}
	}
	return string(out)
}

// instrOf is the instruction of a line with one blank between each two words, and whether there is one.
func instrOf(line string) (api.Instr, bool) {
	var in api.Instr
	var head string
	if m := noneLine.FindStringSubmatch(line); m != nil {
		head = m[1]
	} else if m := oneLine.FindStringSubmatch(line); m != nil {
		n, fits := numberOf(m[2])
		if !fits {
			return in, false
		}
		head, in.A = m[1], n
	} else if m := truthLine.FindStringSubmatch(line); m != nil {
		head, in.A = "bool", map[string]int64{"false": 0, "true": 1}[m[1]]
	} else if m := unLine.FindStringSubmatch(line); m != nil {
		head, in.A = "un", map[string]int64{"-": 1, "!": 2}[m[1]]
	} else if m := binLine.FindStringSubmatch(line); m != nil {
		head = "bin"
		for op := int64(3); op <= 13; op++ {
			if signText[op] == m[1] {
				in.A = op
			}
		}
	} else if m := newLine.FindStringSubmatch(line); m != nil {
		head, in.A = "new", int64(sortOf(m[1]))
	} else if m := showLine.FindStringSubmatch(line); m != nil {
		a, fits := numberOf(m[1])
		b, fitsB := numberOf(m[2])
		if !fits || !fitsB {
			return in, false
		}
		head, in.A, in.B = "show", a, b
	}
	for _, r := range rows {
		if r.word == head {
			in.Op = api.Code8(r.number)
			return in, r.has(in)
		}
	}
	return in, false
}

func entryOf(line string) (api.Entry, bool) {
	m := entryLine.FindStringSubmatch(line)
	if m == nil {
		return api.Entry{}, false
	}
	params, fits := numberOf(m[2])
	e := api.Entry{Name: m[1], Params: int(params)}
	if m[3] != "-" {
		e.Result = sortOf(m[3])
	}
	for _, typing := range strings.Fields(m[5]) {
		e.Sorts = append(e.Sorts, sortOf(typing))
	}
	return e, fits && len(e.Name) <= 24 && params >= 0 && params <= 8 && int(params) <= len(e.Sorts) && len(e.Sorts) <= 250
}

// wantedAssemble is P13.5.
func wantedAssemble(text string) (api.Code, api.Errno, int) {
	var c api.Code
	begun := false
	stands := func(line string) bool {
		if !begun {
			begun = true
			m := mainLine.FindStringSubmatch(line)
			if m == nil {
				return false
			}
			n, fits := numberOf(m[1])
			c.Main = int(n)
			return fits && n >= 0 && n <= 59
		}
		if m := poolLine.FindStringSubmatch(line); m != nil {
			s := unquote(m[1])
			c.Texts = append(c.Texts, s)
			return len(s) <= 200 && len(c.Texts) <= 4000 && len(c.Entrys) == 0
		}
		if e, ok := entryOf(line); ok {
			e.Start = len(c.Instrs)
			bare := len(c.Entrys) > 0 && c.Entrys[len(c.Entrys)-1].Start == e.Start
			c.Entrys = append(c.Entrys, e)
			return !bare && len(c.Entrys) <= 60 && e.Start < 60000
		}
		in, ok := instrOf(line)
		c.Instrs = append(c.Instrs, in)
		return ok && len(c.Entrys) > 0 && len(c.Instrs) <= 60000
	}
	for i, line := range strings.Split(text, "\n") {
		m := anyLine.FindStringSubmatch(line)
		if m != nil && m[1] == "" {
			continue
		}
		if m == nil || !stands(strings.Join(anyWord.FindAllString(m[1], -1), " ")) {
			return api.Code{}, api.ErrLine, i + 1
		}
	}
	if wantedValid(c) != api.OK {
		return api.Code{}, api.ErrLine, strings.Count(text, "\n") + 2
	}
	return c, api.OK, 0
}
