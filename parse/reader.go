package parse

import (
	"strings"

	"retrace/api"
)

// reader goes through the tokens of a text. The nodes that it makes stand each behind its kids: so a left side is where it belongs before its operator is met, however long the chain.
type reader struct {
	tokens []api.Token // the end's last: no rule goes on behind it
	place  int
	made   []api.Node
}

// start is where a node begins: the offset of its first token, and how many nodes were made ahead of its first kid.
type start struct {
	at   int
	made int
}

func (r *reader) here() start {
	return start{at: r.tokens[r.place].At, made: len(r.made)}
}

func (r *reader) put(from start, node api.Node) {
	node.At = from.at
	node.Size = len(r.made) - from.made + 1
	r.made = append(r.made, node)
}

func (r *reader) refuse() {
	refuse(api.ErrToken, r.tokens[r.place].At)
}

func (r *reader) token() api.Token {
	return r.tokens[r.place]
}

// word tells which keyword or sign stands here; a text is none, even if it says one.
func (r *reader) word() string {
	if t := r.token(); t.Kind == api.TokKeyword || t.Kind == api.TokSign {
		return t.Text
	}
	return ""
}

func (r *reader) take(word string) bool {
	if r.word() != word {
		return false
	}
	r.place++
	return true
}

func (r *reader) need(word string) {
	if !r.take(word) {
		r.refuse()
	}
}

func (r *reader) name() string {
	t := r.token()
	if t.Kind != api.TokName {
		r.refuse()
	}
	r.place++
	return t.Text
}

func (r *reader) nameIfAny() string {
	if r.token().Kind != api.TokName {
		return ""
	}
	return r.name()
}

func (r *reader) hookNumber() int64 {
	t := r.token()
	if t.Kind != api.TokNumber || t.Int < 1 || t.Int > api.MaxTree {
		r.refuse()
	}
	r.place++
	return t.Int
}

func (r *reader) typing() string {
	brackets := 0
	for r.take("[") {
		brackets++
	}
	word := r.word()
	switch word {
	case "int", "bool", "text":
		r.place++
	default:
		r.refuse()
	}
	for range brackets {
		r.need("]")
	}
	return strings.Repeat("[", brackets) + word + strings.Repeat("]", brackets)
}

func (r *reader) program() {
	from := r.here()
	for r.token().Kind != api.TokEnd {
		r.function()
	}
	r.put(from, api.Node{Kind: api.KProgram})
}

func (r *reader) function() {
	from := r.here()
	r.need("fn")
	node := api.Node{Kind: api.KFunc, Name: r.name()}
	r.need("(")
	if r.word() != ")" {
		r.parameter()
		for r.take(",") {
			r.parameter()
		}
	}
	r.need(")")
	if r.take(":") {
		node.Type = r.typing()
	}
	r.block()
	r.put(from, node)
}

func (r *reader) parameter() {
	from := r.here()
	name := r.name()
	r.need(":")
	r.put(from, api.Node{Kind: api.KParam, Name: name, Type: r.typing()})
}
