package parse

import "retrace/api"

// operator is a binary operator: how tightly it binds, and how tightly the one behind its right side may at most bind, on the same level of brackets.
type operator struct {
	sign  string
	op    api.Op
	binds int
	next  int
}

// A comparison does not go on with another one: what comes behind it binds less.
var operators = [...]operator{
	{"||", api.OpOr, 1, 1},
	{"&&", api.OpAnd, 2, 2},
	{"==", api.OpEq, 3, 2},
	{"!=", api.OpNe, 3, 2},
	{"<", api.OpLt, 3, 2},
	{"<=", api.OpLe, 3, 2},
	{">", api.OpGt, 3, 2},
	{">=", api.OpGe, 3, 2},
	{"+", api.OpAdd, 4, 4},
	{"-", api.OpSub, 4, 4},
	{"*", api.OpMul, 5, 5},
	{"/", api.OpDiv, 5, 5},
	{"%", api.OpMod, 5, 5},
}

const (
	loosest  = 1
	tightest = 5
)

func operatorOf(word string) (operator, bool) {
	for _, o := range operators {
		if o.sign == word {
			return o, true
		}
	}
	return operator{}, false
}

func (r *reader) expression() {
	r.chain(loosest)
}

func (r *reader) expressions() {
	r.expression()
	for r.take(",") {
		r.expression()
	}
}

// chain reads operands with operators between them that bind as tightly as least, or more.
func (r *reader) chain(least int) {
	from := r.here()
	r.operand()
	most := tightest
	for {
		o, found := operatorOf(r.word())
		if !found || o.binds < least || o.binds > most {
			return
		}
		r.place++
		r.chain(o.binds + 1)
		r.put(from, api.Node{Kind: api.KBinary, Op: o.op})
		most = o.next
	}
}

// operand goes over the signs ahead of it in a loop: there may be more than calls may be deep.
func (r *reader) operand() {
	made := len(r.made)
	first := r.place
	for r.word() == "-" || r.word() == "!" {
		r.place++
	}
	behind := r.place
	from := r.here()
	r.primary()
	r.indexes(from)
	for i := behind - 1; i >= first; i-- {
		node := api.Node{Kind: api.KUnary, Op: api.OpNeg}
		if r.tokens[i].Text == "!" {
			node.Op = api.OpNot
		}
		r.put(start{at: r.tokens[i].At, made: made}, node)
	}
}

func (r *reader) indexes(from start) {
	for r.take("[") {
		r.expression()
		r.need("]")
		r.put(from, api.Node{Kind: api.KIndex})
	}
}

func (r *reader) primary() {
	from := r.here()
	t := r.token()
	switch t.Kind {
	case api.TokNumber:
		r.place++
		r.put(from, api.Node{Kind: api.KInt, Int: t.Int})
	case api.TokText:
		r.place++
		r.put(from, api.Node{Kind: api.KText, Text: t.Text})
	case api.TokName:
		r.place++
		if r.word() == "(" {
			r.call(from, t.Text)
		} else {
			r.put(from, api.Node{Kind: api.KName, Name: t.Text})
		}
	default:
		r.worded(from)
	}
}

// worded reads what begins with a keyword or a sign.
func (r *reader) worded(from start) {
	switch {
	case r.take("true"):
		r.put(from, api.Node{Kind: api.KBool, Int: 1})
	case r.take("false"):
		r.put(from, api.Node{Kind: api.KBool})
	case r.word() == "(":
		r.bracketed()
	case r.take("new"):
		node := api.Node{Kind: api.KNew, Type: r.typing()}
		r.need("[")
		r.expression()
		r.need("]")
		r.put(from, node)
	case r.take("len"):
		r.bracketed()
		r.put(from, api.Node{Kind: api.KLen})
	case r.take("str"):
		r.bracketed()
		r.put(from, api.Node{Kind: api.KStr})
	default:
		r.refuse()
	}
}

func (r *reader) bracketed() {
	r.need("(")
	r.expression()
	r.need(")")
}

func (r *reader) call(from start, name string) {
	r.need("(")
	if r.word() != ")" {
		r.expressions()
	}
	r.need(")")
	r.put(from, api.Node{Kind: api.KCall, Name: name})
}
