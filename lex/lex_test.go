package lex

import (
	"fmt"
	"math"
	"math/big"
	"math/rand"
	"regexp"
	"slices"
	"strconv"
	"strings"
	"testing"
	"unsafe"

	"retrace/api"
)

const allKeywords = "fn var if else while for to break continue return print read true false int bool text new len str"
const allSigns = "( ) { } [ ] , ; : = == != < <= > >= + - * / % ! && || @"

var (
	gapForm    = regexp.MustCompile(`^(?:[\t\n\r ]|#[^\n]*)*`)
	wordForm   = regexp.MustCompile(`^[a-zA-Z][a-zA-Z0-9_]*`)
	numberForm = regexp.MustCompile(`^[0-9]+`)
	textForm   = regexp.MustCompile(`^"(?:[ !#-\[\]-~]|\\[n"\\]|\\x[0-9a-f]{2})*"`)
	signForm   = regexp.MustCompile(`^(?:==|!=|<=|>=|&&|\|\||[(){}\[\],;:=<>+\-*/%!@])`)
	greatest   = big.NewInt(math.MaxInt64)
)

func name(at int, text string) api.Token {
	return api.Token{Kind: api.TokName, At: at, End: at + len(text), Text: text}
}

func keyword(at int, text string) api.Token {
	return api.Token{Kind: api.TokKeyword, At: at, End: at + len(text), Text: text}
}

func sign(at int, text string) api.Token {
	return api.Token{Kind: api.TokSign, At: at, End: at + len(text), Text: text}
}

func number(at, end int, n int64) api.Token {
	return api.Token{Kind: api.TokNumber, At: at, End: end, Int: n}
}

func literal(at, end int, value string) api.Token {
	return api.Token{Kind: api.TokText, At: at, End: end, Text: value}
}

func endAt(at int) api.Token { return api.Token{Kind: api.TokEnd, At: at, End: at} }

// tokenPlainly is the token at the beginning of a text that has no gap there, in the words of P2.1, or what is wrong.
func tokenPlainly(text string) (api.Token, api.Errno) {
	if word := wordForm.FindString(text); word != "" {
		switch {
		case slices.Contains(strings.Fields(allKeywords), word):
			return keyword(0, word), api.OK
		case len(word) > 24:
			return api.Token{}, api.ErrName
		}
		return name(0, word), api.OK
	}
	if digits := numberForm.FindString(text); digits != "" {
		n, _ := new(big.Int).SetString(digits, 10)
		behind := text[len(digits):]
		if len(digits) > 1 && digits[0] == '0' || n.Cmp(greatest) > 0 || wordForm.MatchString(behind) || strings.HasPrefix(behind, "_") {
			return api.Token{}, api.ErrNumber
		}
		return number(0, len(digits), n.Int64()), api.OK
	}
	if text[0] == '"' {
		quoted := textForm.FindString(text)
		value, err := strconv.Unquote(quoted)
		if err != nil || len(value) > 200 {
			return api.Token{}, api.ErrText
		}
		return literal(0, len(quoted), value), api.OK
	}
	if s := signForm.FindString(text); s != "" {
		return sign(0, s), api.OK
	}
	return api.Token{}, api.ErrByte
}

// scanPlainly is what P2.1 asks of Scan, for texts that are not too long.
func scanPlainly(text string) ([]api.Token, api.Problem) {
	var tokens []api.Token
	at := 0
	for {
		at += len(gapForm.FindString(text[at:]))
		if at == len(text) {
			return append(tokens, endAt(at)), api.Problem{}
		}
		token, errno := tokenPlainly(text[at:])
		if errno != api.OK {
			return nil, api.Problem{Code: errno, At: at}
		}
		token.At, token.End = at, at+token.End
		tokens = append(tokens, token)
		at = token.End
	}
}

// eachText goes over all texts of at most the given number of parts.
func eachText(parts []string, most int, do func(string)) {
	var grow func(text string, left int)
	grow = func(text string, left int) {
		do(text)
		if left == 0 {
			return
		}
		for _, part := range parts {
			grow(text+part, left-1)
		}
	}
	grow("", most)
}

// manyTexts goes over texts of many forms: all short ones of bytes and of parts, and some longer ones by chance (always the same).
func manyTexts(do func(string)) {
	eachText([]string{"a", "Z", "_", "0", "9", " ", "\n", "#", "\"", "\\", "n", "x", "=", "&", "|", "!", "-", "é", "\x00"}, 4, do)
	eachText([]string{"\"", "\\", "n", "x", "0", "f", "F", "g"}, 6, do)
	eachText([]string{"=", "<", ">", "!", "&", "|", " "}, 5, do)
	eachText([]string{"if", "while", "name", "_1", "10", "#", "\n", "\t", "\r", "\"a\"", "\"\\x7f\"", "==", "@"}, 4, do)
	source := rand.New(rand.NewSource(2))
	parts := append(strings.Fields(allSigns+" "+allKeywords), "n25_bytes_long_is_too_long", "n24_bytes_long_is_right_", "0", "17", "9223372036854775807", "9223372036854775808", "\"a b\"", "\"\\\\\"", " ", " ", " ", "\n", "# x\n", "#\xff\n", "\x7f")
	for range 20000 {
		var text strings.Builder
		for range source.Intn(12) {
			text.WriteString(parts[source.Intn(len(parts))])
			text.WriteString([]string{"", " ", "\t"}[source.Intn(3)])
		}
		do(text.String())
	}
	for range 20000 {
		text := make([]byte, source.Intn(6))
		for i := range text {
			text[i] = byte(source.Intn(256))
		}
		do(string(text))
	}
}

// P2.1

func TestScanAsTheExamplesSay(t *testing.T) {
	for _, c := range []struct {
		text string
		want []api.Token
	}{
		{"", []api.Token{endAt(0)}},
		{"while1 while", []api.Token{name(0, "while1"), keyword(7, "while"), endAt(12)}},
		{"a<=b==-1#no", []api.Token{name(0, "a"), sign(1, "<="), name(3, "b"), sign(4, "=="), sign(6, "-"), number(7, 8, 1), endAt(11)}},
		{"===", []api.Token{sign(0, "=="), sign(2, "="), endAt(3)}},
		{`"a\x41\n\""`, []api.Token{literal(0, 11, "aA\n\""), endAt(11)}},
		{"9223372036854775807", []api.Token{number(0, 19, math.MaxInt64), endAt(19)}},
		{strings.Repeat("b", 24), []api.Token{name(0, strings.Repeat("b", 24)), endAt(24)}},
		{"# all \xff\x00 \"of it", []api.Token{endAt(15)}},
		{"#\r\t\"\n x", []api.Token{name(6, "x"), endAt(7)}},
		{" \t\r\n", []api.Token{endAt(4)}},
		{"Zz_9", []api.Token{name(0, "Zz_9"), endAt(4)}},
		{"If", []api.Token{name(0, "If"), endAt(2)}},
		{`""`, []api.Token{literal(0, 2, ""), endAt(2)}},
		{`"#"x`, []api.Token{literal(0, 3, "#"), name(3, "x"), endAt(4)}},
		{`"\\"`, []api.Token{literal(0, 4, "\\"), endAt(4)}},
		{`"\x00\xff"`, []api.Token{literal(0, 10, "\x00\xff"), endAt(10)}},
		{"0 10", []api.Token{number(0, 1, 0), number(2, 4, 10), endAt(4)}},
		{"-0", []api.Token{sign(0, "-"), number(1, 2, 0), endAt(2)}},
		{"a1\"x\"2@", []api.Token{name(0, "a1"), literal(2, 5, "x"), number(5, 6, 2), sign(6, "@"), endAt(7)}},
	} {
		if got, problem := Scan(c.text); !slices.Equal(got, c.want) || problem != (api.Problem{}) {
			t.Errorf("P2.1: Scan(%q) = %v, %v, want %v", c.text, got, problem, c.want)
		}
	}
}

func TestScanRefuses(t *testing.T) {
	for _, c := range []struct {
		text string
		code api.Errno
		at   int
	}{
		{"x1 = 07", api.ErrNumber, 5},
		{"00", api.ErrNumber, 0},
		{"9223372036854775808", api.ErrNumber, 0},
		{"10000000000000000000", api.ErrNumber, 0},
		{"18446744073709551617", api.ErrNumber, 0},
		{strings.Repeat("1", 1000), api.ErrNumber, 0},
		{"1a", api.ErrNumber, 0},
		{"1_", api.ErrNumber, 0},
		{"1Z", api.ErrNumber, 0},
		{"\"a\n\"", api.ErrText, 0},
		{"\"a\t\"", api.ErrText, 0},
		{"\"\x7f\"", api.ErrText, 0},
		{"\"\x1f\"", api.ErrText, 0},
		{"\"\xc3\xa9\"", api.ErrText, 0},
		{`"\x4A"`, api.ErrText, 0},
		{`"\x4g"`, api.ErrText, 0},
		{`"\x4"`, api.ErrText, 0},
		{`"\x`, api.ErrText, 0},
		{`"\x4`, api.ErrText, 0},
		{`"\x41`, api.ErrText, 0},
		{`"\q"`, api.ErrText, 0},
		{`"\"`, api.ErrText, 0},
		{`"`, api.ErrText, 0},
		{`"\`, api.ErrText, 0},
		{`"" "`, api.ErrText, 3},
		{"a&b", api.ErrByte, 1},
		{"&", api.ErrByte, 0},
		{"a |", api.ErrByte, 2},
		{"a$", api.ErrByte, 1},
		{"\xc3\xa9", api.ErrByte, 0},
		{"_a", api.ErrByte, 0},
		{"\v", api.ErrByte, 0},
		{"\f", api.ErrByte, 0},
		{" \x00", api.ErrByte, 1},
		{"'", api.ErrByte, 0},
		{"a.b", api.ErrByte, 1},
		{strings.Repeat("n", 25), api.ErrName, 0},
		{"if " + strings.Repeat("n", 25) + " $", api.ErrName, 3},
		{"$ 00", api.ErrByte, 0},
		{"# $\n00 $", api.ErrNumber, 4},
	} {
		if got, problem := Scan(c.text); got != nil || problem != (api.Problem{Code: c.code, At: c.at}) {
			t.Errorf("P2.1: Scan(%.60q) = %v, %v, want %d at %d", c.text, got, problem, c.code, c.at)
		}
	}
}

func TestScanByItsWords(t *testing.T) {
	manyTexts(func(text string) {
		got, problem := Scan(text)
		if want, wrong := scanPlainly(text); !slices.Equal(got, want) || problem != wrong {
			t.Errorf("P2.1: Scan(%q) = %v, %v, want %v, %v", text, got, problem, want, wrong)
		}
	})
}

func TestScanAtEachByte(t *testing.T) {
	for first := range 256 {
		for _, around := range []string{"%s", "%s ", "a%s", "1%s", "\"%s\"", "\"\\%s\"", "\"\\x%s0\"", "\"\\x0%s\"", "#%s", "&%s", "=%s"} {
			text := fmt.Sprintf(around, string([]byte{byte(first)}))
			got, problem := Scan(text)
			if want, wrong := scanPlainly(text); !slices.Equal(got, want) || problem != wrong {
				t.Errorf("P2.1: Scan(%q) = %v, %v, want %v, %v", text, got, problem, want, wrong)
			}
		}
	}
}

func TestScanKnowsEverySignAndKeyword(t *testing.T) {
	for _, s := range strings.Fields(allSigns) {
		if got, problem := Scan(s); !slices.Equal(got, []api.Token{sign(0, s), endAt(len(s))}) || problem.Code != api.OK {
			t.Errorf("P2.1: Scan(%q) = %v, %v", s, got, problem)
		}
	}
	for _, k := range strings.Fields(allKeywords) {
		if got, problem := Scan(k); !slices.Equal(got, []api.Token{keyword(0, k), endAt(len(k))}) || problem.Code != api.OK {
			t.Errorf("P2.1: Scan(%q) = %v, %v", k, got, problem)
		}
	}
}

func TestScanLengthOfTexts(t *testing.T) {
	for _, piece := range []string{"x", `\n`, `\"`, `\\`, `\x00`} {
		most := "\"" + strings.Repeat(piece, 200) + "\""
		if got, problem := Scan(most); len(got) != 2 || len(got[0].Text) != 200 || got[0].End != len(most) || problem.Code != api.OK {
			t.Errorf("P2.1: 200 pieces %q: %v, %v", piece, got, problem)
		}
		if got, problem := Scan("a\"" + strings.Repeat(piece, 201) + "\""); got != nil || problem != (api.Problem{Code: api.ErrText, At: 1}) {
			t.Errorf("P2.1: 201 pieces %q: %v, %v", piece, got, problem)
		}
	}
}

func TestScanSize(t *testing.T) {
	for _, c := range []struct {
		text   string
		tokens int
		want   api.Problem
	}{
		{strings.Repeat(" ", api.MaxScan), 1, api.Problem{}},
		{strings.Repeat("#\n", api.MaxScan/2), 1, api.Problem{}},
		{strings.Repeat("a ", api.MaxScan/2), api.MaxScan/2 + 1, api.Problem{}},
		{strings.Repeat("a", api.MaxScan), 0, api.Problem{Code: api.ErrName}},
		{strings.Repeat("1", api.MaxScan), 0, api.Problem{Code: api.ErrNumber}},
		{strings.Repeat("\"\\", api.MaxScan/2), 0, api.Problem{Code: api.ErrText}},
		{strings.Repeat("#", api.MaxScan+1), 0, api.Problem{Code: api.ErrSize, At: api.MaxScan}},
		{"$" + strings.Repeat(" ", api.MaxScan), 0, api.Problem{Code: api.ErrSize, At: api.MaxScan}},
		{strings.Repeat("\x00", 2*api.MaxScan), 0, api.Problem{Code: api.ErrSize, At: api.MaxScan}},
	} {
		if got, problem := Scan(c.text); len(got) != c.tokens || problem != c.want {
			t.Errorf("P2.1: Scan of %d bytes %.4q = %d tokens, %v, want %d, %v", len(c.text), c.text, len(got), problem, c.tokens, c.want)
		}
	}
}

// P2.2

func TestKeyword(t *testing.T) {
	words := strings.Fields(allKeywords)
	if len(words) != 20 {
		t.Fatal("twenty words are keywords")
	}
	for _, word := range words {
		if !Keyword(word) {
			t.Errorf("P2.2: Keyword(%q) = false", word)
		}
		for _, other := range []string{strings.ToUpper(word), word + " ", " " + word, word + "1", word[:len(word)-1], word + "\x00"} {
			if Keyword(other) {
				t.Errorf("P2.2: Keyword(%q) = true", other)
			}
		}
	}
	eachText([]string{"f", "n", "i", "t", "o", "r", "e", "l", "s"}, 4, func(word string) {
		if Keyword(word) != slices.Contains(words, word) {
			t.Errorf("P2.2: Keyword(%q) = %v", word, Keyword(word))
		}
	})
	for _, other := range []string{"", "(", "main", "hook", "0", strings.Repeat("if", 100000)} {
		if Keyword(other) {
			t.Errorf("P2.2: Keyword(%.20q) = true", other)
		}
	}
}

// P2.3

// piecePlainly is the piece of a byte, in the words of P2.3.
func piecePlainly(b byte) string {
	switch {
	case b == 10:
		return "\\n"
	case b == 34:
		return "\\\""
	case b == 92:
		return "\\\\"
	case b >= 32 && b <= 126:
		return string(rune(b))
	}
	return fmt.Sprintf("\\x%02x", b)
}

func TestQuote(t *testing.T) {
	if got := Quote("\x00\n\"\\~\x7f"); got != `"\x00\n\"\\~\x7f"` {
		t.Errorf("P2.3: the example is %s", got)
	}
	if got := Quote(""); got != `""` {
		t.Errorf("P2.3: Quote of nothing is %s", got)
	}
	for first := range 256 {
		for second := range 256 {
			s := string([]byte{byte(first), byte(second)})
			if got, want := Quote(s), "\""+piecePlainly(s[0])+piecePlainly(s[1])+"\""; got != want {
				t.Errorf("P2.3: Quote(%q) = %s, want %s", s, got, want)
			}
		}
	}
	long := strings.Repeat("a\xff", 3000000)
	if got := Quote(long); got != "\""+strings.Repeat("a\\xff", 3000000)+"\"" {
		t.Errorf("P2.3: the quote of a long text has %d bytes", len(got))
	}
}

// P2.4

func TestTextOfTokens(t *testing.T) {
	for _, c := range []struct {
		token api.Token
		want  string
		errno api.Errno
	}{
		{number(0, 0, 5), "5", api.OK},
		{number(-7, math.MinInt, 0), "0", api.OK},
		{number(0, 0, math.MaxInt64), "9223372036854775807", api.OK},
		{number(0, 0, -1), "", api.ErrArg},
		{number(0, 0, math.MinInt64), "", api.ErrArg},
		{api.Token{Kind: api.TokNumber, Text: "5", Int: 5}, "", api.ErrArg},
		{api.Token{Kind: api.TokNumber, Text: "5"}, "", api.ErrArg},
		{name(3, "if"), "", api.ErrArg},
		{name(3, "x_1"), "x_1", api.OK},
		{name(0, strings.Repeat("n", 24)), strings.Repeat("n", 24), api.OK},
		{name(0, strings.Repeat("n", 25)), "", api.ErrArg},
		{name(0, ""), "", api.ErrArg},
		{name(0, "a "), "", api.ErrArg},
		{name(0, " a"), "", api.ErrArg},
		{name(0, "a#"), "", api.ErrArg},
		{name(0, "_a"), "", api.ErrArg},
		{name(0, "1"), "", api.ErrArg},
		{name(0, "é"), "", api.ErrArg},
		{name(0, "\"a\""), "", api.ErrArg},
		{name(0, "#"), "", api.ErrArg},
		{api.Token{Kind: api.TokName, Text: "a", Int: 1}, "", api.ErrArg},
		{keyword(0, "if"), "if", api.OK},
		{keyword(0, "iff"), "", api.ErrArg},
		{keyword(0, "IF"), "", api.ErrArg},
		{keyword(0, ""), "", api.ErrArg},
		{keyword(0, "a"), "", api.ErrArg},
		{api.Token{Kind: api.TokKeyword, Text: "if", Int: -1}, "", api.ErrArg},
		{literal(0, 0, ""), `""`, api.OK},
		{literal(0, 0, "a\n\""), `"a\n\""`, api.OK},
		{literal(0, 0, strings.Repeat("\xff", 200)), "\"" + strings.Repeat(`\xff`, 200) + "\"", api.OK},
		{literal(0, 0, strings.Repeat("x", 201)), "", api.ErrArg},
		{api.Token{Kind: api.TokText, Text: "a", Int: 1}, "", api.ErrArg},
		{sign(0, "&&"), "&&", api.OK},
		{sign(0, "&"), "", api.ErrArg},
		{sign(0, "=="), "==", api.OK},
		{sign(0, "==="), "", api.ErrArg},
		{sign(0, "= "), "", api.ErrArg},
		{sign(0, " "), "", api.ErrArg},
		{sign(0, ""), "", api.ErrArg},
		{sign(0, "if"), "", api.ErrArg},
		{api.Token{Kind: api.TokSign, Text: "(", Int: 1}, "", api.ErrArg},
		{endAt(12), "", api.OK},
		{api.Token{Kind: api.TokEnd, At: 5, End: 1}, "", api.OK},
		{api.Token{Kind: api.TokEnd, Int: 1}, "", api.ErrArg},
		{api.Token{Kind: api.TokEnd, Text: "a"}, "", api.ErrArg},
		{api.Token{Kind: 6}, "", api.ErrArg},
		{api.Token{Kind: 6, Text: "a"}, "", api.ErrArg},
		{api.Token{Kind: -1, Text: "a"}, "", api.ErrArg},
		{api.Token{Kind: math.MaxInt, Int: 1}, "", api.ErrArg},
		{api.Token{Kind: math.MinInt}, "", api.ErrArg},
	} {
		if got, errno := Text(c.token); got != c.want || errno != c.errno {
			t.Errorf("P2.4: Text(%.80v) = %q, %d, want %q, %d", c.token, got, errno, c.want, c.errno)
		}
	}
}

func TestTextByItsWords(t *testing.T) {
	// Whatever stands in a token, its text is OK just if it is what Scan gives of that text.
	words := append(strings.Fields(allSigns+" "+allKeywords), "", "a", "a1", "1", "\"\"", "if ", "#", "&", "a b", "\x00", strings.Repeat("a", 24), strings.Repeat("a", 25), strings.Repeat("a", 200), strings.Repeat("a", 201))
	for kind := api.TokenKind(-2); kind <= 8; kind++ {
		for _, word := range words {
			for _, n := range []int64{0, 1, -1, 42, math.MaxInt64, math.MinInt64} {
				token := api.Token{Kind: kind, At: 3, End: 2, Text: word, Int: n}
				checkText(t, token)
			}
		}
	}
}

func checkText(t *testing.T, token api.Token) {
	t.Helper()
	written := map[api.TokenKind]string{api.TokName: token.Text, api.TokKeyword: token.Text, api.TokSign: token.Text, api.TokNumber: fmt.Sprint(token.Int), api.TokText: Quote(token.Text)}[token.Kind]
	want, wrong := "", api.ErrArg
	tokens, _ := scanPlainly(written)
	if len(tokens) > 0 && tokens[0].Kind == token.Kind && tokens[0].Text == token.Text && tokens[0].Int == token.Int {
		want, wrong = written, api.OK
	}
	if got, errno := Text(token); got != want || errno != wrong {
		t.Errorf("P2.4: Text(%v) = %q, %d, want %q, %d", token, got, errno, want, wrong)
	}
}

// P2.5

func TestAllIsCovered(t *testing.T) {
	manyTexts(func(text string) {
		tokens, problem := Scan(text)
		if problem.Code != api.OK {
			return
		}
		behind := 0
		for i, token := range tokens {
			if token.At < behind || token.End < token.At || gapForm.FindString(text[behind:token.At]) != text[behind:token.At] {
				t.Fatalf("P2.5: %q: no gap ahead of %v", text, token)
			}
			behind = token.End
			if last := i == len(tokens)-1; last != (token.Kind == api.TokEnd) {
				t.Fatalf("P2.5: %q: %v", text, tokens)
			} else if !last {
				checkAlone(t, text, token)
			}
		}
		if behind != len(text) {
			t.Fatalf("P2.5: %q ends at %d", text, behind)
		}
	})
}

func checkAlone(t *testing.T, text string, token api.Token) {
	t.Helper()
	length := token.End - token.At
	alone := token
	alone.At, alone.End = 0, length
	if got, problem := Scan(text[token.At:token.End]); !slices.Equal(got, []api.Token{alone, endAt(length)}) || problem.Code != api.OK {
		t.Fatalf("P2.5: %q: the token %v alone is %v, %v", text, token, got, problem)
	}
}

// P2.6

// someTokens are tokens of which Text is OK.
func someTokens() []api.Token {
	tokens := []api.Token{name(0, "a"), name(0, "iff"), name(0, strings.Repeat("Z_9", 8)), number(0, 0, 0), number(0, 0, 10), number(0, 0, math.MaxInt64), literal(0, 0, ""), literal(0, 0, "#\"\\\n\x00 é"), literal(0, 0, strings.Repeat("\"", 200))}
	for _, word := range strings.Fields(allKeywords) {
		tokens = append(tokens, keyword(0, word))
	}
	for _, s := range strings.Fields(allSigns) {
		tokens = append(tokens, sign(0, s))
	}
	return tokens
}

func checkBack(t *testing.T, source string, want []api.Token) {
	t.Helper()
	got, problem := Scan(source)
	same := func(a, b api.Token) bool { return a.Kind == b.Kind && a.Text == b.Text && a.Int == b.Int }
	if !slices.EqualFunc(got, append(slices.Clone(want), endAt(0)), same) || problem.Code != api.OK {
		t.Fatalf("P2.6: %.200q = %v, %v, want %v", source, got, problem, want)
	}
}

func TestThereAndBack(t *testing.T) {
	tokens := someTokens()
	for _, first := range tokens {
		for _, second := range tokens {
			checkGaps(t, []api.Token{first, second}, []string{"", " ", ""})
			checkGaps(t, []api.Token{first, second}, []string{"#\xff\n", "#if\n", "\r#\""})
		}
	}
	source := rand.New(rand.NewSource(6))
	gaps := []string{" ", "\t", "\r", "\n", "#\n", "# a\"\x00\xff#\n\n", " \t #x\n ", "\r\n"}
	for range 3000 {
		chosen := make([]api.Token, source.Intn(20))
		between := make([]string, len(chosen)+1)
		for i := range chosen {
			chosen[i] = tokens[source.Intn(len(tokens))]
			between[i] = gaps[source.Intn(len(gaps))]
		}
		between[len(chosen)] = gaps[source.Intn(len(gaps))]
		checkGaps(t, chosen, between)
	}
}

// checkGaps lays the gaps around and between the tokens: one more than there are tokens.
func checkGaps(t *testing.T, tokens []api.Token, gaps []string) {
	t.Helper()
	text := gaps[0]
	for i, token := range tokens {
		written, errno := Text(token)
		if errno != api.OK {
			t.Fatalf("P2.6: Text(%v) = %d", token, errno)
		}
		text += written + gaps[i+1]
	}
	checkBack(t, text, tokens)
}

// P2.7

func TestFirstProblem(t *testing.T) {
	manyTexts(func(text string) {
		if _, problem := Scan(text); problem.Code != api.OK {
			if ahead, other := Scan(text[:problem.At]); other.Code != api.OK || len(ahead) == 0 {
				t.Fatalf("P2.7: %q: %v, and ahead of it %v", text, problem, other)
			}
		}
	})
}

// P2.8

func TestQuotesComeBack(t *testing.T) {
	seen := map[string]string{}
	check := func(s string) {
		quote := Quote(s)
		if other, ok := seen[quote]; ok && other != s {
			t.Fatalf("P2.8: %q and %q have one quote", other, s)
		}
		seen[quote] = s
		for i := range len(quote) {
			if quote[i] < 32 || quote[i] > 126 {
				t.Fatalf("P2.8: the quote of %q has the byte %d", s, quote[i])
			}
		}
		if got, problem := Scan(quote); !slices.Equal(got, []api.Token{literal(0, len(quote), s), endAt(len(quote))}) || problem.Code != api.OK {
			t.Fatalf("P2.8: %q comes back as %v, %v", s, got, problem)
		}
	}
	eachText([]string{"\"", "\\", "\n", "n", "x", "0", "a", "\x0a", "\xff"}, 4, check)
	for b := range 256 {
		check(string([]byte{byte(b)}))
		check(strings.Repeat(string([]byte{byte(b)}), 200))
	}
}

func TestQuotesOfLongTexts(t *testing.T) {
	for _, s := range []string{"a", "\xff", "\""} {
		if got, problem := Scan(Quote(strings.Repeat(s, 201))); got != nil || problem != (api.Problem{Code: api.ErrText}) {
			t.Errorf("P2.8: 201 bytes: %v, %v", got, problem)
		}
	}
	if got, problem := Scan(Quote(strings.Repeat("a", api.MaxScan-2))); got != nil || problem != (api.Problem{Code: api.ErrText}) {
		t.Errorf("P2.8: a quote of MaxScan bytes: %v, %v", got, problem)
	}
	if got, problem := Scan(Quote(strings.Repeat("a", api.MaxScan-1))); got != nil || problem != (api.Problem{Code: api.ErrSize, At: api.MaxScan}) {
		t.Errorf("P2.8: a quote of MaxScan + 1 bytes: %v, %v", got, problem)
	}
}

// P2.9

func TestScanAnswersNewMemory(t *testing.T) {
	text := "if a == \"x\" 12 # no"
	first, _ := Scan(text)
	kept := slices.Clone(first)
	for i := range first[:cap(first)] {
		first[:cap(first)][i] = api.Token{Kind: -9, Text: "changed"}
	}
	if second, _ := Scan(text); !slices.Equal(second, kept) {
		t.Errorf("P2.9: the second answer is %v", second)
	}
}

func TestAnswersShareNoText(t *testing.T) {
	text := strings.Repeat("name if == \"quoted\" ", 3)
	tokens, _ := Scan(text)
	for _, token := range tokens {
		if token.Text != "" && within(token.Text, text) {
			t.Errorf("P2.9: %q is a piece of what was handed in", token.Text)
		}
		if written, _ := Text(token); token.Text != "" && within(written, token.Text) {
			t.Errorf("P2.9: Text(%v) is what was handed in", token)
		}
	}
}

func within(piece, text string) bool {
	begin := uintptr(unsafe.Pointer(unsafe.StringData(text)))
	at := uintptr(unsafe.Pointer(unsafe.StringData(piece)))
	return at >= begin && at < begin+uintptr(len(text))
}

func TestNothingPanics(t *testing.T) {
	huge := strings.Repeat("\x00", 1<<24)
	for _, text := range []string{"", huge, "\"" + huge, strings.Repeat("\"", 1<<20), strings.Repeat("\\", 1<<20), strings.Repeat("9", 1<<24)} {
		Scan(text)
		Quote(text)
		Keyword(text)
		for kind := api.TokenKind(-1); kind < 8; kind++ {
			if _, errno := Text(api.Token{Kind: kind, At: math.MinInt, End: math.MaxInt, Text: text, Int: math.MinInt64}); errno != api.ErrArg {
				t.Errorf("P2.9: Text of kind %d and %d bytes: %d", kind, len(text), errno)
			}
		}
	}
}
