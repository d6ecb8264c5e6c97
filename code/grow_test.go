package code

import (
	"math"
	"math/rand"
	"slices"
	"strings"
	"testing"

	"retrace/api"
)

// grower makes codes that may be.
type grower struct{ *rand.Rand }

func newGrower(seed int64) grower { return grower{rand.New(rand.NewSource(seed))} }

// within is a number from least to most, often one of these.
func (g grower) within(least, most int64) int64 {
	switch g.Intn(4) {
	case 0:
		return least
	case 1:
		return most
	case 2:
		return least + g.Int63n(min(most-least, 20)+1)
	}
	return least + g.Int63n(most-least+1)
}

func (g grower) number() int64 {
	return []int64{0, 1, -1, 9, 10, -10, 255, 256, math.MinInt64, math.MaxInt64, math.MinInt64 + 1, int64(g.Uint64()), g.Int63n(1000)}[g.Intn(13)]
}

func (g grower) sort() api.Sort {
	return api.Sort(4*g.Intn(5) + 1 + g.Intn(3))
}

func (g grower) instr() api.Instr {
	r := rows[g.Intn(len(rows))]
	in := api.Instr{Op: api.Code8(r.number)}
	switch r.word {
	case "int":
		in.A = g.number()
	case "new":
		in.A = int64(4*g.Intn(4) + 1 + g.Intn(3))
	default:
		in.A, in.B = g.within(r.least, r.most), g.within(r.leastB, r.mostB)
	}
	return in
}

func (g grower) name() string {
	const letters = "azAZbmBM"
	name := letters[g.Intn(8):][:1]
	for range g.Intn(24) {
		name += (letters + "059_")[g.Intn(12):][:1]
	}
	return []string{name, name, "main", "f", "fn", "nop", "if", "true"}[g.Intn(8)]
}

func (g grower) entry() api.Entry {
	e := api.Entry{Name: g.name()}
	if g.Intn(2) == 0 {
		e.Result = g.sort()
	}
	slots := g.Intn(10)
	if g.Intn(100) == 0 {
		slots = 250
	}
	for range slots {
		e.Sorts = append(e.Sorts, g.sort())
	}
	e.Params = g.Intn(min(len(e.Sorts), 8) + 1)
	return e
}

func (g grower) text() string {
	b := make([]byte, g.Intn(10))
	if g.Intn(20) == 0 {
		b = make([]byte, 200)
	}
	for i := range b {
		b[i] = []byte{byte(g.Intn(256)), byte(32 + g.Intn(95)), '"', '\\', '\n', '#', ' ', 'x', 'n', 31, 127, 0, 255}[g.Intn(13)]
	}
	return string(b)
}

func (g grower) code() api.Code {
	var c api.Code
	for range g.Intn(4) {
		c.Texts = append(c.Texts, g.text())
	}
	functions := 1 + g.Intn(3)
	if g.Intn(50) == 0 {
		functions = 60
	}
	for range functions {
		e := g.entry()
		e.Start = len(c.Instrs)
		c.Entrys = append(c.Entrys, e)
		for range 1 + g.Intn(6) {
			c.Instrs = append(c.Instrs, g.instr())
		}
	}
	c.Main = g.Intn(functions)
	return c
}

// seeds tells how many codes are grown.
func seeds(all int64) int64 {
	if testing.Short() {
		return all / 10
	}
	return all
}

// same compares codes; an empty list may be nil.
func same(a, b api.Code) bool {
	return a.Main == b.Main && slices.Equal(a.Instrs, b.Instrs) && slices.Equal(a.Texts, b.Texts) && slices.EqualFunc(a.Entrys, b.Entrys, func(x, y api.Entry) bool {
		return x.Name == y.Name && x.Start == y.Start && x.Params == y.Params && x.Result == y.Result && slices.Equal(x.Sorts, y.Sorts)
	})
}

// isZero tells whether a code is the zero one: of an error's answer nothing may be left.
func isZero(c api.Code) bool {
	return c.Instrs == nil && c.Entrys == nil && c.Texts == nil && c.Main == 0
}

// lays asks for P13.1, P13.2 and P13.4 of any code.
func lays(t *testing.T, c api.Code) {
	t.Helper()
	want := wantedValid(c)
	if errno := Valid(c); errno != want {
		t.Fatalf("Valid(%v) = %d, want %d", c, errno, want)
	}
	var wantBytes, wantText string
	if want == api.OK {
		wantBytes, wantText = wantedBytes(c), wantedText(c)
	}
	if b, errno := Encode(c); errno != want || b != wantBytes {
		t.Fatalf("Encode(%v) = %x, %d, want %x, %d", c, b, errno, wantBytes, want)
	}
	if text, errno := Print(c); errno != want || text != wantText {
		t.Fatalf("Print(%v) = %q, %d, want %q, %d", c, text, errno, wantText, want)
	}
}

// reads asks for P13.3, and the last sentences of P13.6, of any bytes, and tells the error.
func reads(t *testing.T, b string) api.Errno {
	t.Helper()
	c, errno := Decode(b)
	want, wantErrno := wantedDecode(b)
	if errno != wantErrno || !same(c, want) {
		t.Fatalf("Decode(%x) = %v, %d, want %v, %d", b, c, errno, want, wantErrno)
	}
	if errno != api.OK {
		if !isZero(c) {
			t.Fatalf("Decode(%x) leaves %v", b, c)
		}
		return errno
	}
	if again, errno := Encode(c); errno != api.OK || again != b {
		t.Fatalf("%x is encoded to %x, %d", b, again, errno)
	}
	return errno
}

// assembles asks for P13.5 of any text, and tells the line.
func assembles(t *testing.T, text string) int {
	t.Helper()
	c, errno, line := Assemble(text)
	want, wantErrno, wantLine := wantedAssemble(text)
	if errno != wantErrno || line != wantLine || !same(c, want) {
		t.Fatalf("Assemble(%q) = %v, %d, %d, want %v, %d, %d", text, c, errno, line, want, wantErrno, wantLine)
	}
	if errno == api.OK && Valid(c) != api.OK || errno != api.OK && !isZero(c) {
		t.Fatalf("Assemble(%q) = %v, %d", text, c, errno)
	}
	return line
}

// P13.1 to P13.6: grown codes, there and back.
func TestGrown(t *testing.T) {
	for seed := range seeds(4000) {
		c := newGrower(seed).code()
		lays(t, c)
		if wantedValid(c) != api.OK {
			t.Fatalf("%v may not be", c)
		}
		b, _ := Encode(c)
		if back, errno := Decode(b); errno != api.OK || !same(back, c) {
			t.Fatalf("%v is decoded to %v, %d", c, back, errno)
		}
		reads(t, b)
		text, _ := Print(c)
		if back, errno, line := Assemble(text); errno != api.OK || line != 0 || !same(back, c) {
			t.Fatalf("%v is assembled to %v, %d, %d", c, back, errno, line)
		}
		assembles(t, text)
	}
}

// spoil changes something of a code, which may then be or not.
func (g grower) spoil(c *api.Code) {
	number := int([]int64{-1, 0, 1, 4, 8, 9, 15, 16, 19, 20, 24, 250, 256, math.MinInt64, math.MaxInt64, 1 << 32, g.number()}[g.Intn(17)])
	e, in := &c.Entrys[g.Intn(len(c.Entrys))], &c.Instrs[g.Intn(len(c.Instrs))]
	switch g.Intn(13) {
	case 0:
		c.Main = []int{number, len(c.Entrys), len(c.Entrys) - 1}[g.Intn(3)]
	case 1:
		e.Start = []int{number, e.Start + 1, e.Start - 1, len(c.Instrs), len(c.Instrs) - 1}[g.Intn(5)]
	case 2:
		e.Params = []int{number, len(e.Sorts), len(e.Sorts) + 1}[g.Intn(3)]
	case 3:
		e.Result = api.Sort(number)
	case 4:
		if len(e.Sorts) > 0 {
			e.Sorts[g.Intn(len(e.Sorts))] = api.Sort(number)
		}
	case 5:
		b := append([]byte(e.Name), byte(g.Intn(256)))
		b[g.Intn(len(b))] = []byte{byte(g.Intn(256)), '_', '5', '@', '[', '`', '{', '/', ':'}[g.Intn(9)]
		e.Name = string(b)
	case 6:
		e.Name = []string{"", "_", "5", "a b", "é", "a\x00", "a\n"}[g.Intn(7)]
	case 7:
		in.Op = api.Code8(number)
	case 8:
		in.Op = api.Code8(g.Intn(26) - 1)
	case 9, 10:
		r, _ := rowOf(in.Op)
		in.A = []int64{int64(number), r.least - 1, r.most + 1, r.least, r.most}[g.Intn(5)]
	case 11:
		r, _ := rowOf(in.Op)
		in.B = []int64{int64(number), r.leastB - 1, r.mostB + 1, r.mostB}[g.Intn(4)]
	case 12:
		c.Texts = append(c.Texts, strings.Repeat("x", 199+g.Intn(3)))
	}
}

// P13.1, P13.2, P13.4: something changed of a code.
func TestSpoilt(t *testing.T) {
	codes := map[api.Errno]int{}
	for seed := range seeds(100000) {
		g := newGrower(seed)
		c := g.code()
		g.spoil(&c)
		lays(t, c)
		codes[Valid(c)]++
	}
	if least := int(seeds(1000)); codes[api.OK] < least || codes[api.ErrCode] < least {
		t.Errorf("too few of a kind: %v", codes)
	}
}

// P13.3: bytes of codes with one changed, left out or put in, cut off, and with others behind them.
func TestSpoiltBytes(t *testing.T) {
	codes := map[api.Errno]int{}
	for seed := range seeds(2000) {
		g := newGrower(seed)
		b := wantedBytes(g.code())
		for range 50 {
			at := g.Intn(min(len(b), []int{10, 40, len(b)}[g.Intn(3)]))
			one := string([]byte{byte(g.Intn(256))})
			if g.Intn(2) == 0 {
				one = string([]byte{byte(int(b[at]) + g.Intn(3) - 1)})
			}
			changed := []string{b[:at] + one + b[at+1:], b[:at] + b[at+1:], b[:at] + one + b[at:], b[:at], b + one, b + b, one + b}[g.Intn(7)]
			codes[reads(t, changed)]++
		}
	}
	if least := int(seeds(1000)); codes[api.OK] < least || codes[api.ErrCode] < least {
		t.Errorf("too few of a kind: %v", codes)
	}
}

// P13.3: the short bytes all, behind a function that may be.
func TestShortBytes(t *testing.T) {
	taken := 0
	for _, head := range []string{"", "C", "C\x00", "C\x00\x01\x01f\x00\x00\x00\x00\x00\x00\x00\x00\x00", "C\x00\x01\x01f\x00\x00\x00\x00\x00\x00\x00\x00\x00\x00\x00\x00\x01"} {
		reads(t, head)
		for a := range 256 {
			reads(t, head+string([]byte{byte(a)}))
			for b := range 256 {
				if reads(t, head+string([]byte{byte(a), byte(b)})) == api.OK {
					taken++
				}
			}
		}
	}
	// One byte behind the instruction: bool 0 and 1, load and store 0 to 249, un 1 and 2, bin 3 to 13, call 0 to 59, twelve sorts, print 1 to 16.
	if want := 2 + 250 + 250 + 2 + 11 + 60 + 12 + 16; taken != want {
		t.Errorf("%d codes of two bytes, want %d", taken, want)
	}
}

// blanks is what may stand between two words.
func (g grower) blanks() string {
	gap := ""
	for range 1 + g.Intn(3) {
		gap += []string{" ", "\t"}[g.Intn(2)]
	}
	return gap
}

// comment is what may stand at a line's end.
func (g grower) comment() string {
	return []string{"", "", " ", "\t ", "#", "#nop", " # \"", "\t#\\\" # \x00\xff\r", "# fn g 0 -"}[g.Intn(9)]
}

// laid is a text with the same words, laid out anew.
func (g grower) laid(text string) string {
	var out strings.Builder
	for _, line := range strings.Split(strings.TrimSuffix(text, "\n"), "\n") {
		for g.Intn(4) == 0 {
			out.WriteString([]string{"", " ", "\t\t"}[g.Intn(3)] + g.comment() + "\n")
		}
		for i, word := range anyWord.FindAllString(line, -1) {
			if i > 0 || g.Intn(2) == 0 {
				out.WriteString(g.blanks())
			}
			out.WriteString(word)
		}
		out.WriteString(g.comment() + "\n")
	}
	if g.Intn(2) == 0 {
		return strings.TrimSuffix(out.String(), "\n")
	}
	return out.String()
}

// P13.6: what stands between and around the words makes no difference.
func TestLaid(t *testing.T) {
	for seed := range seeds(3000) {
		g := newGrower(seed)
		c := g.code()
		text := g.laid(wantedText(c))
		back, errno, line := Assemble(text)
		if errno != api.OK || line != 0 || !same(back, c) {
			t.Fatalf("%q: %v, %d, %d, want %v", text, back, errno, line, c)
		}
	}
}

// spoiltLine is a line with something changed.
func (g grower) spoiltLine(line string) string {
	words := anyWord.FindAllString(line, -1)
	at := g.Intn(len(words))
	other := []string{"-", "!", "+", "==", "&&", "||", "0", "1", "-1", "-0", "00", "007", "+1", "8", "9", "16", "59", "60", "249", "250", "3999", "4000", "40000", "40001", "59999", "60000", "9223372036854775807", "9223372036854775808", "-9223372036854775808", "-9223372036854775809", "18446744073709551616", "1e3", "0x1", "1_0", "int", "bool", "text", "[int]", "[[[text]]]", "[[[[text]]]]", "[[[[[int]]]]]", "[[int]", "[", "]", "[]", "true", "false", "True", "\"", "\"\"", "\"a b\"", "\"a", "a\"", "\"\\q\"", "\"\\x0\"", "\"\\x4A\"", "\"\t\"", "main", "pool", "fn", "nop", "show", "Nop", "\r", "é", "\xff", "\x00", "_"}
	word := other[g.Intn(len(other))]
	switch g.Intn(6) {
	case 0:
		words[at] = word
	case 1:
		words = slices.Insert(words, at+1, word)
	case 2:
		words = slices.Delete(words, at, at+1)
	case 3:
		words[at] += word
	case 4:
		i := g.Intn(len(words[at]))
		words[at] = words[at][:i] + string([]byte{byte(g.Intn(256))}) + words[at][i+1:]
	case 5:
		i := g.Intn(len(words[at]))
		words[at] = words[at][:i] + words[at][i+1:]
	}
	return strings.Join(words, g.blanks())
}

// spoiltText is assembler text with lines changed, left out, doubled or moved.
func (g grower) spoiltText() string {
	lines := strings.Split(wantedText(g.code()), "\n")
	lines = lines[:len(lines)-1]
	for range 1 + g.Intn(2) {
		at := g.Intn(min(len(lines), []int{4, 20, len(lines)}[g.Intn(3)]))
		other := g.Intn(len(lines))
		switch g.Intn(8) {
		case 0:
			lines = slices.Delete(lines, at, at+1)
		case 1:
			lines = slices.Insert(lines, at, lines[other])
		case 2:
			lines[at], lines[other] = lines[other], lines[at]
		case 3:
			lines = lines[:at+1]
		default:
			if anyWord.MatchString(lines[at]) {
				lines[at] = g.spoiltLine(lines[at])
			}
		}
		if len(lines) == 0 {
			return ""
		}
	}
	return strings.Join(lines, "\n") + []string{"", "\n", "\n\n", "\n#"}[g.Intn(4)]
}

// P13.5: texts that are wrong somewhere, or nowhere.
func TestSpoiltText(t *testing.T) {
	fine, inside, end := 0, 0, 0
	for seed := range seeds(60000) {
		text := newGrower(seed).spoiltText()
		switch line := assembles(t, text); {
		case line == 0:
			fine++
		case line <= strings.Count(text, "\n")+1:
			inside++
		default:
			end++
		}
	}
	if least := int(seeds(1000)); fine < least || inside < least || end < least {
		t.Errorf("too few of a kind: %d fine, %d wrong inside, %d at the end", fine, inside, end)
	}
}

// P13.7: what stands behind the first wrong line makes no difference.
func TestFirstWrongStays(t *testing.T) {
	for seed := range seeds(20000) {
		g := newGrower(seed)
		text := g.spoiltText()
		_, errno, line := Assemble(text)
		lines := strings.Split(text, "\n")
		if errno == api.OK || line > len(lines) {
			continue
		}
		ahead := strings.Join(lines[:line], "\n")
		for _, behind := range []string{"", "\n", "\nnop\n", "\n" + g.spoiltText(), "\n\"\n", "\n" + ahead, "\nfn f 0 -\n  nop"} {
			if c, errno, n := Assemble(ahead + behind); errno != api.ErrLine || n != line || !isZero(c) {
				t.Fatalf("%q and behind it %q: %d, %d, want line %d", ahead, behind, errno, n, line)
			}
		}
		// What is right ahead of it is so with something else in its place.
		if c, errno, n := Assemble(strings.Join(lines[:line-1], "\n") + "\n# fine\n"); errno != api.OK && n <= line || errno == api.OK && Valid(c) != api.OK {
			t.Fatalf("%q, up to line %d: %d, %d", text, line-1, errno, n)
		}
	}
}

// P13.8: any bytes and any texts of the pieces that lines are made of.
func TestJunk(t *testing.T) {
	pieces := []string{"main", " ", "\n", "\t", "0", "1", "pool", "\"", "\\", "x41", "fn", "f", "-", "nop", "int", "#", "[", "]", "show", "false", "true", "bool", "\r", "\xff", "\x00", "main 0\n", "fn f 0 -\n", "nop\n", "pool \"\"\n"}
	for seed := range seeds(100000) {
		g := newGrower(seed)
		text := ""
		if g.Intn(2) == 0 {
			text = "main 0\nfn f 0 -\n"
		}
		for range g.Intn(12) {
			text += pieces[g.Intn(len(pieces))]
		}
		assembles(t, text)
		reads(t, text)
		reads(t, "C"+text)
	}
}
