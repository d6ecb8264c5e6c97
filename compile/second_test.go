package compile

import (
	"slices"
	"strconv"
	"strings"

	"retrace/api"
	"retrace/types"
)

// words are the instructions' names, by their numbers.
const words = "nop int bool text load store pop un bin jump false call ret done new get put len str print read emit show tell"

// operands tells how many operands the instruction of a word is written with.
func operands(word string) int {
	switch word {
	case "nop", "pop", "ret", "done", "get", "put", "len", "str", "read":
		return 0
	case "show":
		return 2
	}
	return 1
}

// told is instructions as the chapter writes them; fields that it does not write are told if they are not 0.
func told(instrs []api.Instr) string {
	var out []string
	for _, in := range instrs {
		word := strings.Fields(words)[in.Op]
		line := []string{word}
		if operands(word) > 0 || in.A != 0 {
			line = append(line, strconv.FormatInt(in.A, 10))
		}
		if operands(word) > 1 || in.B != 0 {
			line = append(line, strconv.FormatInt(in.B, 10))
		}
		out = append(out, strings.Join(line, " "))
	}
	return strings.Join(out, ", ")
}

// second is the chapter's table read a second time: a line of it is a text, in which a digit stands for a kid's instructions, a letter with a colon for a place, and a word that begins with $ for something of the node's.
type second struct {
	api.Program
	pool  []string
	fors  map[int]int // of each KFor how many of its function's come ahead of it
	lines []string    // instructions, and places as name@node:
}

func readSecond(p api.Program) *second {
	s := &second{Program: p, fors: map[int]int{}}
	count := map[int]int{}
	for n, node := range p.Tree.Nodes {
		if node.Kind == api.KText && !slices.Contains(s.pool, node.Text) {
			s.pool = append(s.pool, node.Text)
		}
		if node.Kind == api.KFor {
			s.fors[n] = count[p.Scoped.Owners[n]]
			count[p.Scoped.Owners[n]]++
		}
	}
	return s
}

func (s *second) kids(n int) []int {
	var kids []int
	for kid := n + 1; kid < n+s.Tree.Nodes[n].Size; kid += s.Tree.Nodes[kid].Size {
		kids = append(kids, kid)
	}
	return kids
}

// line is the table's line of a node.
func (s *second) line(n int) string {
	node, kids := s.Tree.Nodes[n], s.kids(n)
	index := len(kids) > 0 && s.Tree.Nodes[kids[0]].Kind == api.KIndex
	hook := func(line string) string {
		if node.Int == 0 {
			return ""
		}
		return line + " $int, "
	}
	switch node.Kind {
	case api.KInt:
		return "int $int"
	case api.KBool:
		return "bool $int"
	case api.KText:
		return "text $text"
	case api.KName:
		return "load $slot"
	case api.KUnary:
		return "0, un $op"
	case api.KBinary:
		switch node.Op {
		case api.OpAnd:
			return "0, false F, 1, jump E, F:, bool 0, E:"
		case api.OpOr:
			return "0, false R, bool 1, jump E, R:, 1, E:"
		}
		return "0, 1, bin $op"
	case api.KIndex:
		return "0, 1, get"
	case api.KCall:
		return "all, call $call"
	case api.KNew:
		return "0, new $sort"
	case api.KLen:
		return "0, len"
	case api.KStr:
		return "0, str"
	case api.KBlock:
		return "nop, all"
	case api.KVar:
		return "0, store $slot"
	case api.KAssign:
		if index {
			return "0.0, 0.1, 1, put"
		}
		return "1, store $place"
	case api.KIf:
		if len(kids) == 2 {
			return "0, false E, 1, E:"
		}
		return "0, false F, 1, jump E, F:, 2, E:"
	case api.KWhile:
		return "C:, 0, false E, 1, jump C, E:"
	case api.KFor:
		return "0, store $c, 1, store $d, load $c, load $d, bin 11, false E, B:, load $c, store $slot, 2, C:, load $c, load $d, bin 10, false E, load $c, int 1, bin 3, store $c, jump B, E:"
	case api.KBreak:
		return "jump E$target"
	case api.KContinue:
		return "jump C$target"
	case api.KReturn:
		if len(kids) == 1 {
			return "0, " + hook("tell") + "ret"
		}
		return hook("emit") + "done"
	case api.KPrint:
		return "all, print $count"
	case api.KRead:
		if index {
			return "0.0, 0.1, read, put"
		}
		return "read, store $place"
	case api.KDo:
		if s.Scoped.Funcs[s.Scoped.Calls[kids[0]]].Result != "" {
			return "0, pop"
		}
		return "0"
	case api.KHook:
		if node.Name == "" {
			return "emit $int"
		}
		return "show $int $slot"
	}
	return "?"
}

// fill replaces what is said of the node.
func (s *second) fill(n int, text string) string {
	fields := strings.Split(text, " ")
	for i, field := range fields {
		if at := strings.IndexByte(field, '$'); at >= 0 {
			fields[i] = field[:at] + s.said(n, field[at:])
		}
	}
	return strings.Join(fields, " ")
}

func (s *second) said(n int, what string) string {
	node, number := s.Tree.Nodes[n], 0
	switch what {
	case "$int":
		return strconv.FormatInt(node.Int, 10)
	case "$target":
		return "@" + strconv.Itoa(s.Scoped.Targets[n])
	case "$text":
		number = slices.Index(s.pool, node.Text)
	case "$slot":
		number = s.Scoped.Slots[n]
	case "$place":
		number = s.Scoped.Slots[s.kids(n)[0]]
	case "$op":
		number = int(node.Op)
	case "$call":
		number = s.Scoped.Calls[n]
	case "$sort":
		number = slices.Index([]string{"", "int", "bool", "text", "", "[int]", "[bool]", "[text]", "", "[[int]]", "[[bool]]", "[[text]]", "", "[[[int]]]", "[[[bool]]]", "[[[text]]]"}, node.Type)
	case "$count":
		number = len(s.kids(n))
	case "$c", "$d":
		number = len(s.Scoped.Funcs[s.Scoped.Owners[n]].Vars) + 2*s.fors[n]
		if what == "$d" {
			number++
		}
	}
	return strconv.Itoa(number)
}

// part writes a node's lines.
func (s *second) part(n int) {
	kids := s.kids(n)
	for _, piece := range strings.Split(s.line(n), ", ") {
		switch {
		case piece == "all":
			for _, kid := range kids {
				s.part(kid)
			}
		case piece == "0.0" || piece == "0.1":
			s.part(s.kids(kids[0])[piece[2]-'0'])
		case len(piece) == 1:
			s.part(kids[piece[0]-'0'])
		case strings.HasSuffix(piece, ":"):
			s.lines = append(s.lines, piece[:1]+"@"+strconv.Itoa(n)+":")
		default:
			last := piece[len(piece)-1]
			if 'A' <= last && last <= 'Z' {
				piece += "@" + strconv.Itoa(n)
			}
			s.lines = append(s.lines, s.fill(n, piece))
		}
	}
}

// all writes the whole program and resolves its places.
func (s *second) all() api.Code {
	code := api.Code{Texts: s.pool}
	for number, f := range s.Scoped.Funcs {
		if f.Name == "main" {
			code.Main = number
		}
		s.lines = append(s.lines, "S@"+strconv.Itoa(number)+":")
		kids := s.kids(f.Node)
		for _, n := range s.kids(kids[len(kids)-1]) {
			s.part(n)
		}
		if f.Result == "" {
			s.lines = append(s.lines, "done")
			continue
		}
		s.lines = append(s.lines, "Z@"+strconv.Itoa(number)+":", "jump Z@"+strconv.Itoa(number))
	}
	names := strings.Fields(words)
	places, count := map[string]int{}, 0
	for _, line := range s.lines {
		if strings.HasSuffix(line, ":") {
			places[strings.TrimSuffix(line, ":")] = count
		} else {
			count++
		}
	}
	for _, line := range s.lines {
		if strings.HasSuffix(line, ":") {
			continue
		}
		fields := append(strings.Fields(line), "0", "0")
		in := api.Instr{Op: api.Code8(slices.Index(names, fields[0]))}
		if strings.Contains(fields[1], "@") {
			in.A = int64(places[fields[1]])
		} else {
			in.A, _ = strconv.ParseInt(fields[1], 10, 64)
		}
		in.B, _ = strconv.ParseInt(fields[2], 10, 64)
		code.Instrs = append(code.Instrs, in)
	}
	for number, f := range s.Scoped.Funcs {
		code.Entrys = append(code.Entrys, s.entry(f, places["S@"+strconv.Itoa(number)]))
	}
	return code
}

func (s *second) entry(f api.Func, start int) api.Entry {
	e := api.Entry{Name: f.Name, Start: start, Params: f.Params, Result: types.Sort(f.Result)}
	for _, v := range f.Vars {
		e.Sorts = append(e.Sorts, types.Sort(v.Type))
	}
	for len(e.Sorts) < f.Slots {
		e.Sorts = append(e.Sorts, 1)
	}
	return e
}

// high is how high the stack gets in a part, as P15.4 says it.
func (s *second) high(n int) int {
	node, kids := s.Tree.Nodes[n], s.kids(n)
	most := func(least int, parts ...int) int {
		for _, part := range parts {
			least = max(least, s.high(part))
		}
		return least
	}
	piled := func(least int, parts ...int) int {
		for i, part := range parts {
			least = max(least, s.high(part)+i)
		}
		return least
	}
	switch node.Kind {
	case api.KInt, api.KBool, api.KText, api.KName:
		return 1
	case api.KBinary:
		if node.Op == api.OpAnd || node.Op == api.OpOr {
			return most(0, kids...)
		}
		return piled(0, kids...)
	case api.KIndex, api.KPrint:
		return piled(0, kids...)
	case api.KCall:
		if s.Scoped.Funcs[s.Scoped.Calls[n]].Result != "" {
			return piled(1, kids...)
		}
		return piled(0, kids...)
	case api.KAssign:
		if s.Tree.Nodes[kids[0]].Kind == api.KIndex {
			return piled(0, append(s.kids(kids[0]), kids[1])...)
		}
		return s.high(kids[1])
	case api.KRead:
		if s.Tree.Nodes[kids[0]].Kind == api.KIndex {
			return piled(3, s.kids(kids[0])...)
		}
		return 1
	case api.KFor:
		return most(2, kids...)
	}
	return most(0, kids...)
}

// wanted is what the chapter asks for of a checked program.
func wanted(p api.Program) (api.Code, api.Errno) {
	s := readSecond(p)
	made := s.all()
	if len(made.Instrs) > 60000 || len(made.Texts) > 4000 {
		return api.Code{}, api.ErrSize
	}
	for _, f := range p.Scoped.Funcs {
		kids := s.kids(f.Node)
		if s.high(kids[len(kids)-1]) > 400 {
			return api.Code{}, api.ErrSize
		}
	}
	return made, api.OK
}
