package pretty

import (
	"strconv"

	"retrace/api"
)

const oneBlock = "    "

func (w *writer) program() {
	for n := 1; n < len(w.nodes); n = w.behind(n) {
		if n > 1 {
			w.put("\n")
		}
		w.function(n)
	}
}

func (w *writer) function(n int) {
	node := w.nodes[n]
	w.put("fn ", node.Name, "(")
	kid := n + 1
	for ; w.nodes[kid].Kind == api.KParam; kid++ {
		if kid > n+1 {
			w.put(", ")
		}
		w.put(w.nodes[kid].Name, ": ", w.nodes[kid].Type)
	}
	w.put(")")
	w.putFilled(": ", node.Type)
	w.put(" ")
	w.block(kid)
	w.put("\n")
}

// block calls itself by way of its statements. As each line in it begins with more blanks than the one around it, a text is too long ahead of the calls being too deep.
func (w *writer) block(n int) {
	w.put("{\n")
	w.blocks++
	for kid := n + 1; kid < w.behind(n); kid = w.behind(kid) {
		w.indent()
		w.statement(kid)
		w.put("\n")
	}
	w.blocks--
	w.indent()
	w.put("}")
}

func (w *writer) indent() {
	for range w.blocks {
		w.put(oneBlock)
	}
}

// statement writes one without what its first line begins with and its last one ends with.
func (w *writer) statement(n int) {
	switch w.nodes[n].Kind {
	case api.KBlock:
		w.block(n)
	case api.KIf:
		w.choice(n)
	case api.KWhile, api.KFor:
		w.loop(n)
	default:
		w.simple(n)
		w.put(";")
	}
}

// choice goes along an if and those behind its else in a loop: they may be more than calls may be deep.
func (w *writer) choice(n int) {
	end := w.behind(n)
	for {
		w.put("if ")
		w.expression(n + 1)
		w.put(" ")
		block := w.behind(n + 1)
		w.block(block)
		other := w.behind(block)
		if other == end {
			return
		}
		w.put(" else ")
		if w.nodes[other].Kind == api.KBlock {
			w.block(other)
			return
		}
		n = other
	}
}

func (w *writer) loop(n int) {
	node := w.nodes[n]
	if node.Label != "" {
		w.put(node.Label, ": ")
	}
	first := n + 1
	block := w.behind(first)
	if node.Kind == api.KWhile {
		w.put("while ")
		w.expression(first)
	} else {
		w.put("for ", node.Name, " = ")
		w.expression(first)
		w.put(" to ")
		w.expression(block)
		block = w.behind(block)
	}
	w.put(" ")
	w.block(block)
}

// simple writes a statement of one line, without the semicolon.
func (w *writer) simple(n int) {
	node := w.nodes[n]
	first := n + 1
	switch node.Kind {
	case api.KVar:
		w.put("var ", node.Name, ": ", node.Type, " = ")
		w.expression(first)
	case api.KAssign:
		w.expression(first)
		w.put(" = ")
		w.expression(w.behind(first))
	case api.KBreak:
		w.put("break")
		w.putFilled(" ", node.Label)
	case api.KContinue:
		w.put("continue")
		w.putFilled(" ", node.Label)
	case api.KReturn:
		w.put("return")
		if node.Int != 0 {
			w.put(" @", strconv.FormatInt(node.Int, 10))
		}
		if node.Size > 1 {
			w.put(" ")
			w.expression(first)
		}
	case api.KPrint:
		w.put("print ")
		w.expressions(first, w.behind(n))
	case api.KRead:
		w.put("read ")
		w.expression(first)
	case api.KDo:
		w.expression(first)
	case api.KHook:
		w.put("@", strconv.FormatInt(node.Int, 10))
		w.putFilled(" ", node.Name)
	}
}

// putFilled writes a word with what parts it from what stands ahead, if it is not empty.
func (w *writer) putFilled(ahead, word string) {
	if word != "" {
		w.put(ahead, word)
	}
}
