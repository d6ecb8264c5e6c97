package parse

import (
	"slices"
	"strings"
)

// The grammar as the document writes it (if-stmt is the one with "if" in front; HOOK is a number behind an @).
const grammarText = `
program = { "fn" NAME "(" [ NAME ":" type { "," NAME ":" type } ] ")" [ ":" type ] block }
type = "int" | "bool" | "text" | "[" type "]"
block = "{" { stmt } "}"
stmt = "var" NAME ":" type "=" expr ";" | place "=" expr ";" | if-stmt | [ NAME ":" ] "while" expr block | [ NAME ":" ] "for" NAME "=" expr "to" expr block | "break" [ NAME ] ";" | "continue" [ NAME ] ";" | "return" [ "@" HOOK ] [ expr ] ";" | "print" expr { "," expr } ";" | "read" place ";" | call ";" | block | "@" HOOK [ NAME ] ";"
if-stmt = "if" expr block [ "else" ( block | if-stmt ) ]
place = NAME { "[" expr "]" }
expr = and { "||" and }
and = comp { "&&" comp }
comp = sum [ ( "==" | "!=" | "<" | "<=" | ">" | ">=" ) sum ]
sum = term { ( "+" | "-" ) term }
term = unary { ( "*" | "/" | "%" ) unary }
unary = ( "-" | "!" ) unary | post
post = primary { "[" expr "]" }
primary = NUMBER | TEXT | "true" | "false" | NAME | call | "(" expr ")" | "new" type "[" expr "]" | "len" "(" expr ")" | "str" "(" expr ")"
call = NAME "(" [ expr { "," expr } ] ")"
`

// production is one way to make a thing; a symbol in quotes or capitals is a token.
type production struct {
	left  string
	right []string
}

type grammar struct {
	productions []production
	byLeft      map[string][]int
	empty       map[string]bool // what may be made of nothing
}

// grammarReader turns the document's form into productions: brackets become things of their own.
type grammarReader struct {
	words []string
	made  []production
	fresh int
}

func (g *grammarReader) alternatives(left, end string) {
	for {
		g.made = append(g.made, production{left, g.sequence(end)})
		word := g.words[0]
		g.words = g.words[1:]
		if word == end {
			return
		}
	}
}

func (g *grammarReader) sequence(end string) []string {
	var right []string
	for g.words[0] != "|" && g.words[0] != end {
		word := g.words[0]
		g.words = g.words[1:]
		closing := map[string]string{"(": ")", "[": "]", "{": "}"}[word]
		if closing == "" {
			right = append(right, word)
			continue
		}
		g.fresh++
		inner := word + strings.Repeat("'", g.fresh)
		right = append(right, inner)
		g.alternatives(inner, closing)
		switch word {
		case "[":
			g.made = append(g.made, production{inner, nil})
		case "{":
			for i, p := range g.made {
				if p.left == inner {
					g.made[i].right = append([]string{inner}, p.right...)
				}
			}
			g.made = append(g.made, production{inner, nil})
		}
	}
	return right
}

func readGrammar() *grammar {
	r := grammarReader{}
	for _, line := range strings.Split(strings.TrimSpace(grammarText), "\n") {
		left, right, _ := strings.Cut(line, " = ")
		r.words = append(strings.Fields(right), "end")
		r.alternatives(left, "end")
	}
	g := &grammar{productions: r.made, byLeft: map[string][]int{}, empty: map[string]bool{}}
	for i, p := range g.productions {
		g.byLeft[p.left] = append(g.byLeft[p.left], i)
	}
	for range g.productions {
		for _, p := range g.productions {
			if !slices.ContainsFunc(p.right, func(s string) bool { return !g.empty[s] }) {
				g.empty[p.left] = true
			}
		}
	}
	return g
}

// An item is a production of which a part has been met, from some token on.
type item struct {
	production, met, from int
}

// chart is what may be going on behind each token of a beginning (Earley's way, which knows nothing of how the program reads).
type chart struct {
	g    *grammar
	goal string
	sets [][]item
}

func newChart(g *grammar, goal string) *chart {
	c := &chart{g: g, goal: goal}
	var seeds []item
	for _, p := range g.byLeft[goal] {
		seeds = append(seeds, item{p, 0, 0})
	}
	c.close(seeds)
	return c
}

// close adds what follows from the seeds, as the chart's next set.
func (c *chart) close(seeds []item) {
	at := len(c.sets)
	seen := map[item]bool{}
	var set []item
	add := func(it item) {
		if !seen[it] {
			seen[it] = true
			set = append(set, it)
		}
	}
	for _, it := range seeds {
		add(it)
	}
	for i := 0; i < len(set); i++ {
		it := set[i]
		p := c.g.productions[it.production]
		if it.met < len(p.right) {
			next := p.right[it.met]
			for _, q := range c.g.byLeft[next] {
				add(item{q, 0, at})
			}
			if c.g.empty[next] {
				add(item{it.production, it.met + 1, it.from})
			}
			continue
		}
		earlier := set
		if it.from < at {
			earlier = c.sets[it.from]
		}
		for _, waiting := range earlier {
			q := c.g.productions[waiting.production]
			if waiting.met < len(q.right) && q.right[waiting.met] == p.left {
				add(item{waiting.production, waiting.met + 1, waiting.from})
			}
		}
	}
	c.sets = append(c.sets, set)
}

// wanted tells the tokens that can stand next, and whether the end can.
func (c *chart) wanted() (tokens map[string]bool, end bool) {
	tokens = map[string]bool{}
	for _, it := range c.sets[len(c.sets)-1] {
		p := c.g.productions[it.production]
		switch {
		case it.met < len(p.right):
			tokens[p.right[it.met]] = true
		case it.from == 0 && p.left == c.goal:
			end = true
		}
	}
	return tokens, end
}

func (c *chart) push(token string) {
	var seeds []item
	for _, it := range c.sets[len(c.sets)-1] {
		p := c.g.productions[it.production]
		if it.met < len(p.right) && fits(token, p.right[it.met]) {
			seeds = append(seeds, item{it.production, it.met + 1, it.from})
		}
	}
	c.close(seeds)
}

func (c *chart) pop() {
	c.sets = c.sets[:len(c.sets)-1]
}

// fits tells whether a token, as it is written, is what a production names.
func fits(token, symbol string) bool {
	return slices.Contains(symbolsOf(token), symbol)
}

func symbolsOf(token string) []string {
	keywords := strings.Fields("fn var if else while for to break continue return print read true false int bool text new len str")
	switch first := token[0]; {
	case first == '"':
		return []string{"TEXT"}
	case first == '0', token == "40001":
		return []string{"NUMBER"}
	case '1' <= first && first <= '9':
		return []string{"NUMBER", "HOOK"}
	case slices.Contains(keywords, token) || !isLetterByte(first):
		return []string{`"` + token + `"`}
	}
	return []string{"NAME"}
}

func isLetterByte(b byte) bool {
	return 'a' <= b && b <= 'z' || 'A' <= b && b <= 'Z'
}
