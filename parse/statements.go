package parse

import "retrace/api"

func (r *reader) block() {
	from := r.here()
	r.need("{")
	for !r.take("}") {
		r.statement()
	}
	r.put(from, api.Node{Kind: api.KBlock})
}

func (r *reader) statement() {
	switch r.word() {
	case "var":
		r.declaration()
	case "if":
		r.choice()
	case "while", "for":
		r.loop(r.here(), "")
	case "break":
		r.jump(api.KBreak)
	case "continue":
		r.jump(api.KContinue)
	case "return":
		r.giveBack()
	case "print":
		r.output()
	case "read":
		r.input()
	case "@":
		r.hook()
	case "{":
		r.block()
	default:
		r.named()
	}
}

func (r *reader) declaration() {
	from := r.here()
	r.need("var")
	node := api.Node{Kind: api.KVar, Name: r.name()}
	r.need(":")
	node.Type = r.typing()
	r.need("=")
	r.expression()
	r.need(";")
	r.put(from, node)
}

// choice goes on over an else with an if behind in a loop: such a chain may be longer than calls may be deep.
func (r *reader) choice() {
	var open []start
	for {
		open = append(open, r.here())
		r.need("if")
		r.expression()
		r.block()
		if !r.take("else") {
			break
		}
		if r.word() != "if" {
			r.block()
			break
		}
	}
	for i := len(open) - 1; i >= 0; i-- {
		r.put(open[i], api.Node{Kind: api.KIf})
	}
}

func (r *reader) loop(from start, label string) {
	node := api.Node{Kind: api.KWhile, Label: label}
	switch {
	case r.take("while"):
		r.expression()
	case r.take("for"):
		node.Kind, node.Name = api.KFor, r.name()
		r.need("=")
		r.expression()
		r.need("to")
		r.expression()
	default:
		r.refuse()
	}
	r.block()
	r.put(from, node)
}

func (r *reader) jump(kind api.Kind) {
	from := r.here()
	r.place++
	node := api.Node{Kind: kind, Label: r.nameIfAny()}
	r.need(";")
	r.put(from, node)
}

func (r *reader) giveBack() {
	from := r.here()
	r.need("return")
	node := api.Node{Kind: api.KReturn}
	if r.take("@") {
		node.Int = r.hookNumber()
	}
	if r.word() != ";" {
		r.expression()
	}
	r.need(";")
	r.put(from, node)
}

func (r *reader) output() {
	from := r.here()
	r.need("print")
	r.expressions()
	r.need(";")
	r.put(from, api.Node{Kind: api.KPrint})
}

func (r *reader) input() {
	from := r.here()
	r.need("read")
	target := r.here()
	r.put(target, api.Node{Kind: api.KName, Name: r.name()})
	r.indexes(target)
	r.need(";")
	r.put(from, api.Node{Kind: api.KRead})
}

func (r *reader) hook() {
	from := r.here()
	r.need("@")
	node := api.Node{Kind: api.KHook, Int: r.hookNumber(), Name: r.nameIfAny()}
	r.need(";")
	r.put(from, node)
}

// named reads the statements that begin with a name: what stands behind the name tells which.
func (r *reader) named() {
	from := r.here()
	name := r.name()
	switch {
	case r.take(":"):
		r.loop(from, name)
		return
	case r.word() == "(":
		r.call(from, name)
		r.put(from, api.Node{Kind: api.KDo})
	default:
		r.put(from, api.Node{Kind: api.KName, Name: name})
		r.indexes(from)
		r.need("=")
		r.expression()
		r.put(from, api.Node{Kind: api.KAssign})
	}
	r.need(";")
}
