package tree

import (
	"errors"
	"strconv"
	"strings"

	"retrace/api"
	"retrace/lex"
)

// errNoDump is what a text that is no dump is given up with.
var errNoDump = errors.New("no dump")

var words = [...]string{
	api.KProgram:  "program",
	api.KFunc:     "fn",
	api.KParam:    "param",
	api.KBlock:    "block",
	api.KVar:      "var",
	api.KAssign:   "assign",
	api.KIf:       "if",
	api.KWhile:    "while",
	api.KFor:      "for",
	api.KBreak:    "break",
	api.KContinue: "continue",
	api.KReturn:   "return",
	api.KPrint:    "print",
	api.KRead:     "read",
	api.KDo:       "do",
	api.KHook:     "hook",
	api.KInt:      "int",
	api.KBool:     "bool",
	api.KText:     "text",
	api.KName:     "name",
	api.KIndex:    "index",
	api.KCall:     "call",
	api.KUnary:    "unary",
	api.KBinary:   "binary",
	api.KNew:      "new",
	api.KLen:      "len",
	api.KStr:      "str",
}

var signs = [...]string{
	api.OpNeg: "-",
	api.OpNot: "!",
	api.OpAdd: "+",
	api.OpSub: "-",
	api.OpMul: "*",
	api.OpDiv: "/",
	api.OpMod: "%",
	api.OpEq:  "==",
	api.OpNe:  "!=",
	api.OpLt:  "<",
	api.OpLe:  "<=",
	api.OpGt:  ">",
	api.OpGe:  ">=",
	api.OpAnd: "&&",
	api.OpOr:  "||",
}

// Dump gives a tree's text.
func Dump(t api.Tree) (string, api.Errno) {
	if !isTree(t.Nodes) {
		return "", api.ErrTree
	}
	var dump []byte
	var ends []int // of the subtrees that the node stands in
	for n, node := range t.Nodes {
		for len(ends) > 0 && ends[len(ends)-1] == n {
			ends = ends[:len(ends)-1]
		}
		dump = appendLine(dump, node, len(ends))
		if len(dump) > api.MaxScan {
			return "", api.ErrSize
		}
		ends = append(ends, n+node.Size)
	}
	return string(dump), api.OK
}

// Load gives the tree of a text that Dump gave.
func Load(text string) (t api.Tree, errno api.Errno) {
	defer func() {
		cause := recover()
		if cause == errNoDump {
			t, errno = api.Tree{}, api.ErrDump
		} else if cause != nil {
			panic(cause)
		}
	}()
	return api.Tree{Nodes: readDump(text)}, api.OK
}

func appendLine(dump []byte, node api.Node, depth int) []byte {
	for range depth {
		dump = append(dump, "  "...)
	}
	dump = append(dump, words[node.Kind]...)
	s, _ := shapeOf(node.Kind)
	if s.label != never {
		dump = appendWord(dump, node.Label)
	}
	if s.mostInt > 0 {
		dump = strconv.AppendInt(append(dump, ' '), node.Int, 10)
	}
	if s.name != never {
		dump = appendWord(dump, node.Name)
	}
	if s.typing != never {
		dump = appendWord(dump, node.Type)
	}
	if s.lastOp > 0 {
		dump = appendWord(dump, signs[node.Op])
	}
	if s.longest > 0 {
		dump = appendWord(dump, lex.Quote(node.Text))
	}
	dump = strconv.AppendInt(append(dump, " @"...), int64(node.At), 10)
	return append(dump, '\n')
}

func appendWord(dump []byte, word string) []byte {
	if word == "" {
		word = "-"
	}
	return append(append(dump, ' '), word...)
}

func readDump(text string) []api.Node {
	if len(text) > api.MaxScan {
		panic(errNoDump)
	}
	var nodes []api.Node
	var open []int // the nodes that the next one may be a kid of, by their depth
	for text != "" {
		line, rest, ended := strings.Cut(text, "\n")
		if !ended {
			panic(errNoDump)
		}
		node, depth := readLine(line)
		if depth > len(open) {
			panic(errNoDump)
		}
		closeNodes(nodes, open[depth:])
		open = append(open[:depth], len(nodes))
		nodes = append(nodes, node)
		text = rest
	}
	closeNodes(nodes, open)
	if !isTree(nodes) {
		panic(errNoDump)
	}
	return nodes
}

// closeNodes sets the Size of nodes whose subtrees end where the list ends so far.
func closeNodes(nodes []api.Node, open []int) {
	for _, n := range open {
		nodes[n].Size = len(nodes) - n
	}
}

func readLine(line string) (node api.Node, depth int) {
	told := strings.TrimLeft(line, " ")
	blanks := len(line) - len(told)
	// A quoted text may have a sign like that of the place, but only ahead of it.
	sign := strings.LastIndex(told, " @")
	if blanks%2 != 0 || sign < 0 {
		panic(errNoDump)
	}
	node = readWords(told[:sign])
	node.At = int(readNumber(told[sign+len(" @"):]))
	return node, blanks / 2
}

func readWords(told string) api.Node {
	word, rest := firstWord(told)
	node := api.Node{Kind: readKind(word)}
	s, _ := shapeOf(node.Kind)
	if s.label != never {
		word, rest = nextWord(rest)
		node.Label = readFilled(word)
	}
	if s.mostInt > 0 {
		word, rest = nextWord(rest)
		node.Int = readNumber(word)
	}
	if s.name != never {
		word, rest = nextWord(rest)
		node.Name = readFilled(word)
	}
	if s.typing != never {
		word, rest = nextWord(rest)
		node.Type = readFilled(word)
	}
	if s.lastOp > 0 {
		word, rest = nextWord(rest)
		node.Op = readOp(word, s.firstOp, s.lastOp)
	}
	if s.longest > 0 {
		node.Text, rest = readText(rest), ""
	}
	if rest != "" {
		panic(errNoDump)
	}
	return node
}

// firstWord parts a word from what stands behind it, the blank ahead of the next word among it.
func firstWord(told string) (word, rest string) {
	if end := strings.IndexByte(told, ' '); end >= 0 {
		return told[:end], told[end:]
	}
	return told, ""
}

func nextWord(rest string) (word, behind string) {
	if rest == "" {
		panic(errNoDump)
	}
	return firstWord(rest[1:])
}

func readKind(word string) api.Kind {
	for kind, known := range words {
		if word == known {
			return api.Kind(kind)
		}
	}
	panic(errNoDump)
}

// readFilled reads a label, a name or a type: whether it may be is asked of the whole tree, but an empty word would pass there for the dash of an empty field.
func readFilled(word string) string {
	switch word {
	case "":
		panic(errNoDump)
	case "-":
		return ""
	}
	return strings.Clone(word)
}

func readNumber(word string) int64 {
	number, err := strconv.ParseInt(word, 10, 64)
	if err != nil || strconv.FormatInt(number, 10) != word {
		panic(errNoDump)
	}
	return number
}

func readOp(word string, first, last api.Op) api.Op {
	for op := first; op <= last; op++ {
		if word == signs[op] {
			return op
		}
	}
	panic(errNoDump)
}

func readText(rest string) string {
	word := strings.TrimPrefix(rest, " ")
	tokens, problem := lex.Scan(word)
	if problem.Code != api.OK || lex.Quote(tokens[0].Text) != word {
		panic(errNoDump)
	}
	return tokens[0].Text
}
