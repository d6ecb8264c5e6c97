package tree

import (
	"fmt"
	"math"
	"math/rand"
	"regexp"
	"slices"
	"strconv"
	"strings"
	"testing"
	"unsafe"

	"retrace/api"
	"retrace/lex"
)

// What the chapter says of each kind, as texts: the fields that it names, and its kids as a form over their letters.
type rule struct {
	kind   api.Kind
	letter string
	fields string // words as in a dump
	kids   string // P: place, E: expression, S: statement
}

const (
	expressions = "[ijtnxcubwls]"
	statements  = "[BVAIWFkoRprdh]"
)

var rules = []rule{
	{api.KProgram, "G", "program", "f*"},
	{api.KFunc, "f", "fn Name type", "m{0,8}B"},
	{api.KParam, "m", "param Name Type", ""},
	{api.KBlock, "B", "block", "S*"},
	{api.KVar, "V", "var Name Type", "E"},
	{api.KAssign, "A", "assign", "PE"},
	{api.KIf, "I", "if", "EB[BI]?"},
	{api.KWhile, "W", "while label", "EB"},
	{api.KFor, "F", "for label Name", "EEB"},
	{api.KBreak, "k", "break label", ""},
	{api.KContinue, "o", "continue label", ""},
	{api.KReturn, "R", "return 0..40000", "E?"},
	{api.KPrint, "p", "print", "E{1,16}"},
	{api.KRead, "r", "read", "P"},
	{api.KDo, "d", "do", "c"},
	{api.KHook, "h", "hook 1..40000 name", ""},
	{api.KInt, "i", "int 0..9223372036854775807", ""},
	{api.KBool, "j", "bool 0..1", ""},
	{api.KText, "t", "text Text", ""},
	{api.KName, "n", "name Name", ""},
	{api.KIndex, "x", "index", "EE"},
	{api.KCall, "c", "call Name", "E*"},
	{api.KUnary, "u", "unary 1-2", "E"},
	{api.KBinary, "b", "binary 3-15", "EE"},
	{api.KNew, "w", "new Type", "E"},
	{api.KLen, "l", "len", "E"},
	{api.KStr, "s", "str", "E"},
}

var (
	nameForm = regexp.MustCompile(`^[a-zA-Z][a-zA-Z0-9_]{0,23}$`)
	typeForm = regexp.MustCompile(`^(\[*)(int|bool|text)(\]*)$`)
	kidForms = map[api.Kind]*regexp.Regexp{}
	ruleOf   = map[api.Kind]rule{}
	opSigns  = strings.Fields("? - ! + - * / % == != < <= > >= && ||")
)

func init() {
	for _, r := range rules {
		ruleOf[r.kind] = r
		form := strings.NewReplacer("E", expressions, "S", statements, "P", "[nx]").Replace(r.kids)
		kidForms[r.kind] = regexp.MustCompile("^" + form + "$")
	}
}

func goodName(s string) bool {
	words := strings.Fields("fn var if else while for to break continue return print read true false int bool text new len str")
	return nameForm.MatchString(s) && !slices.Contains(words, s)
}

func goodType(s string) bool {
	m := typeForm.FindStringSubmatch(s)
	return m != nil && len(m[1]) == len(m[3]) && len(m[1]) <= 4
}

// plainFields tells whether a node's fields are as the table of the chapter says.
func plainFields(n api.Node) bool {
	left := n // what the kind names is taken out; the rest must be zero
	left.Kind, left.At, left.Size = 0, 0, 0
	for _, f := range strings.Fields(ruleOf[n.Kind].fields)[1:] {
		switch f {
		case "Name", "name":
			if !goodName(n.Name) && (n.Name != "" || f == "Name") {
				return false
			}
			left.Name = ""
		case "label":
			if !goodName(n.Label) && n.Label != "" {
				return false
			}
			left.Label = ""
		case "Type", "type":
			if !goodType(n.Type) && (n.Type != "" || f == "Type") {
				return false
			}
			left.Type = ""
		case "Text":
			if len(n.Text) > 200 {
				return false
			}
			left.Text = ""
		default:
			var low, high int64
			if _, err := fmt.Sscanf(f, "%d..%d", &low, &high); err == nil {
				if n.Int < low || n.Int > high {
					return false
				}
				left.Int = 0
			} else if _, err := fmt.Sscanf(f, "%d-%d", &low, &high); err == nil {
				if int64(n.Op) < low || int64(n.Op) > high {
					return false
				}
				left.Op = 0
			} else {
				panic(f)
			}
		}
	}
	return left == api.Node{}
}

// plainKids tells the kids of a node whose subtree they fill, or that they don't.
func plainKids(l []api.Node, n int) ([]int, bool) {
	var kids []int
	end := n + l[n].Size
	k := n + 1
	for k < end {
		if l[k].Size < 1 || l[k].Size > len(l)-k {
			return nil, false
		}
		kids = append(kids, k)
		k += l[k].Size
	}
	return kids, k == end
}

func plainPlace(l []api.Node, n int) bool {
	if l[n].Kind != api.KIndex {
		return l[n].Kind == api.KName
	}
	kids, ok := plainKids(l, n)
	return ok && len(kids) > 0 && plainPlace(l, kids[0])
}

// plainTree is the chapter's definition of a tree, by recursion.
func plainTree(l []api.Node) bool {
	if len(l) == 0 || l[0].Size != len(l) {
		return false
	}
	if !strings.Contains("G"+expressions, ruleOf[l[0].Kind].letter) || ruleOf[l[0].Kind].letter == "" {
		return false
	}
	var holds func(n int) bool
	holds = func(n int) bool {
		if l[n].At < 0 || l[n].Size < 1 || ruleOf[l[n].Kind].letter == "" || !plainFields(l[n]) {
			return false
		}
		kids, ok := plainKids(l, n)
		if !ok {
			return false
		}
		letters := ""
		for _, k := range kids {
			letters += ruleOf[l[k].Kind].letter
			if ruleOf[l[k].Kind].letter == "" {
				return false
			}
		}
		if !kidForms[l[n].Kind].MatchString(letters) {
			return false
		}
		if strings.HasPrefix(ruleOf[l[n].Kind].kids, "P") && !plainPlace(l, kids[0]) {
			return false
		}
		for _, k := range kids {
			if !holds(k) {
				return false
			}
		}
		return true
	}
	return holds(0)
}

// plainParents tells each node's parent in a tree.
func plainParents(l []api.Node) []int {
	parents := make([]int, len(l))
	parents[0] = -1
	for n := range l {
		kids, _ := plainKids(l, n)
		for _, k := range kids {
			parents[k] = n
		}
	}
	return parents
}

// plainDump is the dump in the words of P3.5.
func plainDump(l []api.Node) string {
	var b strings.Builder
	parents := plainParents(l)
	for i, n := range l {
		for p := parents[i]; p >= 0; p = parents[p] {
			b.WriteString("  ")
		}
		for j, f := range strings.Fields(ruleOf[n.Kind].fields) {
			w := f
			switch {
			case j == 0:
			case f == "Name" || f == "name":
				w = n.Name
			case f == "Type" || f == "type":
				w = n.Type
			case f == "label":
				w = n.Label
			case f == "Text":
				w = lex.Quote(n.Text)
			case strings.Contains(f, ".."):
				w = fmt.Sprint(n.Int)
			default:
				w = opSigns[n.Op]
			}
			if w == "" {
				w = "-"
			}
			b.WriteString(w + " ")
		}
		fmt.Fprintf(&b, "@%d\n", n.At)
	}
	return b.String()
}

var (
	lineForm   = regexp.MustCompile(`^((?:  )*)([a-z]+)((?: [^ \n]+)*?)( ".*")? @(0|[1-9][0-9]*)$`)
	numberForm = regexp.MustCompile(`^(0|[1-9][0-9]*)$`)
)

// plainLoad is P3.6: what a text may tell is read by forms and then held against the dump of what was read.
func plainLoad(text string) ([]api.Node, bool) {
	if len(text) > api.MaxScan || !strings.HasSuffix(text, "\n") {
		return nil, false
	}
	var l []api.Node
	var depths []int
	for _, line := range strings.Split(strings.TrimSuffix(text, "\n"), "\n") {
		m := lineForm.FindStringSubmatch(line)
		if m == nil {
			return nil, false
		}
		n, ok := plainLine(m[2], strings.Fields(m[3]), m[4], m[5])
		if !ok {
			return nil, false
		}
		l = append(l, n)
		depths = append(depths, len(m[1])/2)
	}
	for i := range l {
		j := i + 1
		for j < len(l) && depths[j] > depths[i] {
			j++
		}
		l[i].Size = j - i
	}
	if !plainTree(l) || plainDump(l) != text {
		return nil, false
	}
	return l, true
}

func plainLine(word string, rest []string, quoted, at string) (n api.Node, ok bool) {
	i := slices.IndexFunc(rules, func(r rule) bool { return strings.Fields(r.fields)[0] == word })
	if i < 0 {
		return n, false
	}
	n.Kind = rules[i].kind
	fields := strings.Fields(rules[i].fields)[1:]
	if len(fields) == 1 && fields[0] == "Text" {
		tokens, problem := lex.Scan(quoted)
		if len(rest) != 0 || problem.Code != api.OK {
			return n, false
		}
		n.Text = tokens[0].Text
		fields = nil
	} else if len(fields) != len(rest) || quoted != "" {
		return n, false
	}
	for j, f := range fields {
		w := strings.TrimPrefix(rest[j], "-")
		switch {
		case f == "Name" || f == "name":
			n.Name = w
		case f == "Type" || f == "type":
			n.Type = w
		case f == "label":
			n.Label = w
		case strings.Contains(f, ".."):
			v, err := strconv.ParseInt(rest[j], 10, 64)
			if err != nil || !numberForm.MatchString(rest[j]) {
				return n, false
			}
			n.Int = v
		default:
			for op, s := range opSigns {
				if s == rest[j] && (n.Kind == api.KUnary) == (op < 3) {
					n.Op = api.Op(op)
				}
			}
		}
	}
	v, err := strconv.ParseInt(at, 10, 64)
	n.At = int(v)
	return n, err == nil
}

func list(nodes ...api.Node) api.Tree { return api.Tree{Nodes: nodes} }

// example is the tree of "fn main() { print 1 + x; }".
func example() api.Tree {
	return list(
		api.Node{Kind: api.KProgram, Size: 7},
		api.Node{Kind: api.KFunc, Name: "main", Size: 6},
		api.Node{Kind: api.KBlock, At: 10, Size: 5},
		api.Node{Kind: api.KPrint, At: 12, Size: 4},
		api.Node{Kind: api.KBinary, Op: api.OpAdd, At: 18, Size: 3},
		api.Node{Kind: api.KInt, Int: 1, At: 18, Size: 1},
		api.Node{Kind: api.KName, Name: "x", At: 22, Size: 1})
}

const exampleDump = "program @0\n  fn main - @0\n    block @10\n      print @12\n        binary + @18\n          int 1 @18\n          name x @22\n"

// grown makes trees of every kind by chance: of a program, or of an expression.
type grown struct {
	r *rand.Rand
	l []api.Node
}

func grow(seed int64, program bool) api.Tree {
	g := &grown{r: rand.New(rand.NewSource(seed))}
	if program {
		g.node(api.KProgram, 4)
	} else {
		g.expression(3)
	}
	return api.Tree{Nodes: g.l}
}

func (g *grown) pick(words ...string) string { return words[g.r.Intn(len(words))] }

func (g *grown) name() string {
	return g.pick("x", "Y", "a_1", "main", "while1", "Int", "z9_", strings.Repeat("n", 24))
}

func (g *grown) typing() string { return g.pick("int", "bool", "text", "[int]", "[[[[text]]]]") }

func (g *grown) expression(deep int) {
	if deep == 0 {
		g.node(api.KInt+api.Kind(g.r.Intn(4)), 0)
		return
	}
	g.node(api.KInt+api.Kind(g.r.Intn(11)), deep-1)
}

func (g *grown) place(deep int) {
	if deep == 0 || g.r.Intn(2) == 0 {
		g.node(api.KName, 0)
		return
	}
	n := len(g.l)
	g.l = append(g.l, api.Node{Kind: api.KIndex, At: g.at()})
	g.place(deep - 1)
	g.expression(deep - 1)
	g.l[n].Size = len(g.l) - n
}

func (g *grown) at() int {
	if g.r.Intn(20) == 0 {
		return math.MaxInt
	}
	return g.r.Intn(3)
}

func (g *grown) statement(deep int) {
	if deep <= 0 {
		g.node([]api.Kind{api.KBreak, api.KContinue, api.KHook, api.KReturn}[g.r.Intn(4)], 0)
		return
	}
	g.node(api.KBlock+api.Kind(g.r.Intn(13)), deep-1)
}

func (g *grown) node(kind api.Kind, deep int) {
	deep = max(deep, 0)
	n := len(g.l)
	node := api.Node{Kind: kind, At: g.at()}
	for _, f := range strings.Fields(ruleOf[kind].fields)[1:] {
		switch {
		case f == "Name" || f == "name" && g.r.Intn(2) == 0:
			node.Name = g.name()
		case f == "label" && g.r.Intn(2) == 0:
			node.Label = g.name()
		case f == "Type" || f == "type" && g.r.Intn(2) == 0:
			node.Type = g.typing()
		case f == "Text":
			node.Text = g.pick("", "a @", " @5\n", "\"\\", "é", "-", strings.Repeat("\x00", 200))
		case strings.Contains(f, ".."):
			var low, high int64
			fmt.Sscanf(f, "%d..%d", &low, &high)
			node.Int = []int64{low, high, min(low+1, high)}[g.r.Intn(3)]
		case strings.Contains(f, "-"):
			var low, high int
			fmt.Sscanf(f, "%d-%d", &low, &high)
			node.Op = api.Op(low + g.r.Intn(high-low+1))
		}
	}
	g.l = append(g.l, node)
	g.kids(kind, deep)
	g.l[n].Size = len(g.l) - n
}

func (g *grown) kids(kind api.Kind, deep int) {
	many := func(n int, one func(int)) {
		for range n {
			one(deep)
		}
	}
	switch kind {
	case api.KProgram:
		many(g.r.Intn(3), func(int) { g.node(api.KFunc, deep-1) })
	case api.KFunc:
		many(g.r.Intn(9), func(int) { g.node(api.KParam, 0) })
		g.node(api.KBlock, deep)
	case api.KBlock:
		many(g.r.Intn(3), g.statement)
	case api.KAssign:
		g.place(deep)
		g.expression(deep)
	case api.KIf:
		g.expression(deep)
		g.node(api.KBlock, deep-1)
		if g.r.Intn(2) == 0 {
			g.node(api.KBlock, deep-1)
		} else if deep > 0 && g.r.Intn(2) == 0 {
			g.node(api.KIf, deep-1)
		}
	case api.KWhile:
		g.expression(deep)
		g.node(api.KBlock, deep-1)
	case api.KFor:
		many(2, g.expression)
		g.node(api.KBlock, deep-1)
	case api.KReturn:
		many(g.r.Intn(2), g.expression)
	case api.KPrint:
		many(1+g.r.Intn(16), func(int) { g.expression(0) })
	case api.KRead:
		g.place(deep)
	case api.KDo:
		g.node(api.KCall, deep)
	case api.KCall:
		many(g.r.Intn(4), g.expression)
	case api.KIndex, api.KBinary:
		many(2, g.expression)
	case api.KVar, api.KUnary, api.KNew, api.KLen, api.KStr:
		g.expression(deep)
	}
}

func grownTrees(count int) []api.Tree {
	var trees []api.Tree
	for seed := range int64(count) {
		trees = append(trees, grow(seed, seed%3 != 0))
	}
	return trees
}

// chain is n nodes, each the only kid of the one ahead of it.
func chain(n int) api.Tree {
	var l []api.Node
	for i := range n - 1 {
		l = append(l, api.Node{Kind: api.KUnary, Op: api.OpNeg, Size: n - i})
	}
	return list(append(l, api.Node{Kind: api.KInt, Int: 5, Size: 1})...)
}

func checkValid(t *testing.T, x api.Tree) {
	t.Helper()
	want := api.ErrTree
	if plainTree(x.Nodes) {
		want = api.OK
	}
	if got := Valid(x); got != want {
		t.Fatalf("P3.1: Valid(%v) = %d, want %d", x, got, want)
	}
}

func TestValidGrown(t *testing.T) {
	seen := map[api.Kind]bool{}
	for _, x := range grownTrees(3000) {
		if Valid(x) != api.OK {
			t.Fatalf("P3.1: a grown tree is refused: %v", x)
		}
		checkValid(t, x)
		for _, n := range x.Nodes {
			seen[n.Kind] = true
		}
	}
	if len(seen) != len(rules) {
		t.Errorf("only %d kinds grew", len(seen))
	}
}

// changes are ways to make one field of a node another one.
var changes = []func(n *api.Node){
	func(n *api.Node) { n.Kind++ },
	func(n *api.Node) { n.Kind-- },
	func(n *api.Node) { n.Kind = 0 },
	func(n *api.Node) { n.Kind = api.KBlock },
	func(n *api.Node) { n.Kind = api.KParam },
	func(n *api.Node) { n.Kind = api.KIndex },
	func(n *api.Node) { n.Kind = api.KName },
	func(n *api.Node) { n.Kind = api.KCall },
	func(n *api.Node) { n.Kind = api.KIf },
	func(n *api.Node) { n.Kind = 17 },
	func(n *api.Node) { n.Kind = 31 },
	func(n *api.Node) { n.Kind = -1 },
	func(n *api.Node) { n.Kind = math.MaxInt },
	func(n *api.Node) { n.At = -1 },
	func(n *api.Node) { n.At = math.MinInt },
	func(n *api.Node) { n.At = math.MaxInt },
	func(n *api.Node) { n.Size++ },
	func(n *api.Node) { n.Size-- },
	func(n *api.Node) { n.Size = 0 },
	func(n *api.Node) { n.Size = 1 },
	func(n *api.Node) { n.Size = -1 },
	func(n *api.Node) { n.Size = math.MaxInt },
	func(n *api.Node) { n.Size = math.MinInt },
	func(n *api.Node) { n.Name = "" },
	func(n *api.Node) { n.Name = "x" },
	func(n *api.Node) { n.Name = "if" },
	func(n *api.Node) { n.Name = "_" },
	func(n *api.Node) { n.Label = "" },
	func(n *api.Node) { n.Label = "y2" },
	func(n *api.Node) { n.Label = "str" },
	func(n *api.Node) { n.Type = "" },
	func(n *api.Node) { n.Type = "int" },
	func(n *api.Node) { n.Type = "[int" },
	func(n *api.Node) { n.Op = 0 },
	func(n *api.Node) { n.Op = api.OpNeg },
	func(n *api.Node) { n.Op = api.OpAdd },
	func(n *api.Node) { n.Op = api.OpNot },
	func(n *api.Node) { n.Op = api.OpOr },
	func(n *api.Node) { n.Op = 16 },
	func(n *api.Node) { n.Op = -1 },
	func(n *api.Node) { n.Int = 0 },
	func(n *api.Node) { n.Int = 1 },
	func(n *api.Node) { n.Int = 2 },
	func(n *api.Node) { n.Int = -1 },
	func(n *api.Node) { n.Int = 40000 },
	func(n *api.Node) { n.Int = 40001 },
	func(n *api.Node) { n.Int = math.MaxInt64 },
	func(n *api.Node) { n.Text = "" },
	func(n *api.Node) { n.Text = "a" },
	func(n *api.Node) { n.Text = strings.Repeat("a", 201) },
}

func TestValidChanged(t *testing.T) {
	good, bad := 0, 0
	for seed := range int64(400) {
		x := grow(seed, seed%3 != 0)
		for i := range x.Nodes {
			if len(x.Nodes) > 60 && i%7 != 0 {
				continue
			}
			for _, change := range changes {
				was := x.Nodes[i]
				change(&x.Nodes[i])
				checkValid(t, x)
				if Valid(x) == api.OK {
					good++
				} else {
					bad++
				}
				x.Nodes[i] = was
			}
		}
		for i := range x.Nodes { // lists that lack a node, or have one twice
			checkValid(t, list(slices.Delete(slices.Clone(x.Nodes), i, i+1)...))
			checkValid(t, list(slices.Insert(slices.Clone(x.Nodes), i, x.Nodes[i])...))
		}
		checkValid(t, list(x.Nodes[:len(x.Nodes)-1]...))
	}
	if good < 1000 || bad < 1000 {
		t.Errorf("the changes give %d good lists and %d bad ones", good, bad)
	}
}

// plain is a node of a kind with the least fields that it needs.
func plain(kind api.Kind, size int) api.Node {
	n := api.Node{Kind: kind, Size: size}
	for _, f := range strings.Fields(ruleOf[kind].fields)[1:] {
		switch {
		case f == "Name":
			n.Name = "x"
		case f == "Type":
			n.Type = "int"
		case strings.HasPrefix(f, "1.."):
			n.Int = 1
		case f == "1-2":
			n.Op = api.OpNeg
		case f == "3-15":
			n.Op = api.OpAdd
		}
	}
	return n
}

// Every list of up to three nodes, of each kind and some sizes, is held against the definition.
func TestValidShortLists(t *testing.T) {
	checkValid(t, api.Tree{})
	checkValid(t, list())
	var menu []api.Node
	for kind := api.Kind(-1); kind <= 31; kind++ {
		for size := range 5 {
			menu = append(menu, ofKind(kind, size))
		}
	}
	for _, a := range menu {
		checkValid(t, list(a))
		for _, b := range menu {
			checkValid(t, list(a, b))
			if a.Size != 3 || b.Size == 0 || b.Size > 3 {
				continue
			}
			for _, c := range menu {
				checkValid(t, list(a, b, c))
			}
		}
	}
}

func ofKind(kind api.Kind, size int) api.Node {
	if ruleOf[kind].letter == "" {
		return api.Node{Kind: kind, Size: size}
	}
	return plain(kind, size)
}

// inBody puts statements into the body of a program.
func inBody(statements ...api.Node) api.Tree {
	n := len(statements)
	head := []api.Node{plain(api.KProgram, n+3), plain(api.KFunc, n+2), plain(api.KBlock, n+1)}
	return list(append(head, statements...)...)
}

// Every kind in a body with up to three kids of each kind.
func TestValidKids(t *testing.T) {
	taken := map[api.Kind]int{}
	for kind := api.KProgram; kind <= api.KStr; kind++ {
		if ruleOf[kind].letter == "" {
			continue
		}
		var kids []api.Node
		var try func(left int)
		try = func(left int) {
			x := inBody(append([]api.Node{plain(kind, len(kids)+1)}, kids...)...)
			checkValid(t, x)
			y := list(append([]api.Node{plain(kind, len(kids)+1)}, kids...)...)
			checkValid(t, y)
			if Valid(x) == api.OK || Valid(y) == api.OK {
				taken[kind]++
			}
			if left == 0 {
				return
			}
			for _, r := range rules {
				kids = append(kids, plain(r.kind, 1))
				try(left - 1)
				kids = kids[:len(kids)-1]
			}
		}
		try(3)
	}
	whole := [][]api.Node{ // each with all the kids that it may have
		{plain(api.KIf, 4), plain(api.KInt, 1), plain(api.KBlock, 1), plain(api.KBlock, 1)},
		{plain(api.KFor, 4), plain(api.KInt, 1), plain(api.KInt, 1), plain(api.KBlock, 1)},
	}
	for _, l := range whole {
		if Valid(inBody(l...)) != api.OK {
			t.Errorf("P3.1: %v", l)
		}
		l[0].Size++
		for _, r := range rules {
			if x := inBody(append(slices.Clone(l), plain(r.kind, 1))...); Valid(x) != api.ErrTree {
				t.Errorf("P3.1: a kid too many: %v", x)
			}
		}
	}
	if len(taken) != len(rules)-2 { // a KFunc and a KParam stand elsewhere
		t.Errorf("taken: %v", taken)
	}
}

func TestValidPlaces(t *testing.T) {
	x, i := plain(api.KName, 1), plain(api.KInt, 1)
	index := func(first ...api.Node) []api.Node {
		return append(append([]api.Node{{Kind: api.KIndex, Size: len(first) + 2}}, first...), i)
	}
	deep := []api.Node{x}
	notDeep := []api.Node{i}
	for range 5 {
		deep, notDeep = index(deep...), index(notDeep...)
		for _, place := range [][]api.Node{deep, notDeep} {
			checkValid(t, inBody(append([]api.Node{{Kind: api.KRead, Size: len(place) + 1}}, place...)...))
			checkValid(t, inBody(append(append([]api.Node{{Kind: api.KAssign, Size: len(place) + 2}}, place...), i)...))
			if Valid(inBody(append(append([]api.Node{{Kind: api.KAssign, Size: len(place) + 2}}, place...), i)...)) == api.OK != (place[len(place)/2].Kind == api.KName) {
				t.Errorf("P3.1: a place of %d nodes", len(place))
			}
		}
		if Valid(list(notDeep...)) != api.OK {
			t.Errorf("P3.1: an index that is no place is an expression")
		}
	}
	if Valid(inBody(append(append([]api.Node{{Kind: api.KAssign, Size: 5}}, i), index(x)...)...)) != api.ErrTree {
		t.Errorf("P3.1: an assignment to a number")
	}
}

func TestValidNamesAndTypes(t *testing.T) {
	names := []string{"", "a", "Z", "_", "0", "a0", "a_", "a__9", "fn", "Fn", "fns", "len", "a b", "a-", "-", "é", "aé", "a\x00", "a ", " a", "main",
		strings.Repeat("a", 24), strings.Repeat("a", 25), strings.Repeat("_", 24), "@", "[", "`", "{", "a[", "a`", "a{", "a/", "a:", "a@"}
	for b := range 256 {
		names = append(names, string([]byte{byte(b)}), string([]byte{'a', byte(b)}))
	}
	types := []string{"", "int", "bool", "text", "Int", "ints", " int", "int ", "[int]", "[[int]]", "[[[bool]]]", "[[[[text]]]]", "[[[[[text]]]]]",
		"[int", "int]", "[[int]", "[]", "[", "]", "[ int]", "[int][int]", "][", "x", "-", "[-]", "[[[[]]]]", strings.Repeat("[", 100) + "int" + strings.Repeat("]", 100)}
	for _, s := range names {
		for kind, r := range ruleOf {
			n := plain(kind, 1)
			n.Name = s
			if r.kids == "" || r.kids == "E*" {
				checkValid(t, list(n))
				checkValid(t, inBody(n))
			}
			n = plain(kind, 1)
			n.Label = s
			checkValid(t, inBody(n))
		}
		checkValid(t, list(api.Node{Kind: api.KProgram, Size: 3}, api.Node{Kind: api.KFunc, Name: s, Size: 2}, plain(api.KBlock, 1)))
		checkValid(t, inBody(api.Node{Kind: api.KFor, Name: s, Size: 4}, plain(api.KInt, 1), plain(api.KInt, 1), plain(api.KBlock, 1)))
		checkValid(t, inBody(api.Node{Kind: api.KFor, Name: "x", Label: s, Size: 4}, plain(api.KInt, 1), plain(api.KInt, 1), plain(api.KBlock, 1)))
		checkValid(t, inBody(api.Node{Kind: api.KWhile, Label: s, Size: 3}, plain(api.KInt, 1), plain(api.KBlock, 1)))
		if got := Valid(list(api.Node{Kind: api.KName, Name: s, Size: 1})) == api.OK; got != goodName(s) {
			t.Errorf("P3.1: the name %q: %v", s, got)
		}
	}
	for _, s := range types {
		checkValid(t, list(api.Node{Kind: api.KNew, Type: s, Size: 2}, plain(api.KInt, 1)))
		checkValid(t, inBody(api.Node{Kind: api.KVar, Name: "x", Type: s, Size: 2}, plain(api.KInt, 1)))
		checkValid(t, list(api.Node{Kind: api.KProgram, Size: 4}, api.Node{Kind: api.KFunc, Name: "f", Type: s, Size: 3}, api.Node{Kind: api.KParam, Name: "x", Type: "int", Size: 1}, plain(api.KBlock, 1)))
		checkValid(t, list(api.Node{Kind: api.KProgram, Size: 4}, api.Node{Kind: api.KFunc, Name: "f", Size: 3}, api.Node{Kind: api.KParam, Name: "x", Type: s, Size: 1}, plain(api.KBlock, 1)))
		if got := Valid(list(api.Node{Kind: api.KNew, Type: s, Size: 2}, plain(api.KInt, 1))) == api.OK; got != goodType(s) {
			t.Errorf("P3.1: the type %q: %v", s, got)
		}
	}
}

func TestValidLimits(t *testing.T) {
	function := func(params int) api.Tree {
		l := []api.Node{plain(api.KProgram, params+3), plain(api.KFunc, params+2)}
		l = append(l, slices.Repeat([]api.Node{plain(api.KParam, 1)}, params)...)
		return list(append(l, plain(api.KBlock, 1))...)
	}
	printing := func(kids int) api.Tree {
		return inBody(append([]api.Node{plain(api.KPrint, kids+1)}, slices.Repeat([]api.Node{plain(api.KInt, 1)}, kids)...)...)
	}
	for _, c := range []struct {
		x    api.Tree
		want api.Errno
	}{
		{function(0), api.OK}, {function(8), api.OK}, {function(9), api.ErrTree},
		{printing(0), api.ErrTree}, {printing(1), api.OK}, {printing(16), api.OK}, {printing(17), api.ErrTree},
		{list(api.Node{Kind: api.KText, Text: strings.Repeat("\xff", 200), Size: 1}), api.OK},
		{list(api.Node{Kind: api.KText, Text: strings.Repeat("\xff", 201), Size: 1}), api.ErrTree},
		{inBody(api.Node{Kind: api.KHook, Int: 40000, Size: 1}), api.OK},
		{inBody(api.Node{Kind: api.KHook, Int: 40001, Size: 1}), api.ErrTree},
		{inBody(api.Node{Kind: api.KHook, Int: 0, Size: 1}), api.ErrTree},
		{inBody(api.Node{Kind: api.KReturn, Int: 40000, Size: 1}), api.OK},
		{inBody(api.Node{Kind: api.KReturn, Int: 40001, Size: 1}), api.ErrTree},
		{inBody(api.Node{Kind: api.KReturn, Int: -1, Size: 1}), api.ErrTree},
		{list(api.Node{Kind: api.KInt, Int: math.MaxInt64, At: math.MaxInt, Size: 1}), api.OK},
		{inBody(slices.Repeat([]api.Node{plain(api.KBreak, 1)}, 1000)...), api.OK},
		{list(append([]api.Node{plain(api.KProgram, 2001)}, slices.Repeat([]api.Node{plain(api.KFunc, 2), plain(api.KBlock, 1)}, 1000)...)...), api.OK},
		{chain(100000), api.OK}, // no depth and no length is asked for
		{list(append([]api.Node{plain(api.KCall, 100001)}, slices.Repeat([]api.Node{plain(api.KInt, 1)}, 100000)...)...), api.OK},
	} {
		if got := Valid(c.x); got != c.want {
			t.Errorf("P3.1: %d nodes, the last %v: %d, want %d", len(c.x.Nodes), c.x.Nodes[len(c.x.Nodes)-1], got, c.want)
		}
	}
}

func TestExamples(t *testing.T) {
	for _, c := range []struct {
		x    api.Tree
		want api.Errno
	}{
		{list(api.Node{Kind: api.KInt, Int: 5, Size: 1}), api.OK},
		{list(), api.ErrTree},
		{list(api.Node{Kind: api.KInt, Int: -1, Size: 1}), api.ErrTree},
		{list(api.Node{Kind: api.KInt, Size: 2}), api.ErrTree},
		{list(api.Node{Kind: api.KInt, Name: "x", Size: 1}), api.ErrTree},
		{list(api.Node{Kind: api.KBlock, Size: 1}), api.ErrTree},
		{list(api.Node{Kind: api.KDo, Size: 2}, api.Node{Kind: api.KCall, Name: "f", Size: 1}), api.ErrTree},
	} {
		if got := Valid(c.x); got != c.want {
			t.Errorf("P3.1: Valid(%v) = %d, want %d", c.x, got, c.want)
		}
	}
	x := example()
	if got, errno := Dump(x); got != exampleDump || errno != api.OK {
		t.Errorf("P3.5: %q, %d", got, errno)
	}
	if kids := Kids(x, 4); !slices.Equal(kids, []int{5, 6}) {
		t.Errorf("P3.2: Kids %v", kids)
	}
	if last, parent := Last(x, 4), Parent(x, 4); last != 6 || parent != 3 {
		t.Errorf("P3.2: Last %d, Parent %d", last, parent)
	}
	if spine := Spine(x, 4); !slices.Equal(spine, []int{0, 1, 2, 3, 4}) {
		t.Errorf("P3.2: Spine %v", spine)
	}
	if sub := Sub(x, 4); !slices.Equal(sub.Nodes, x.Nodes[4:7]) {
		t.Errorf("P3.4: Sub %v", sub)
	}
	one := []api.Node{{Kind: api.KInt, Int: 5, Size: 1}}
	if got, errno := Load("int 5 @0\n"); !slices.Equal(got.Nodes, one) || errno != api.OK {
		t.Errorf("P3.6: %v, %d", got, errno)
	}
	for _, text := range []string{"int 5 @0", "int 05 @0\n", " int 5 @0\n", ""} {
		if got, errno := Load(text); got.Nodes != nil || errno != api.ErrDump {
			t.Errorf("P3.6: Load(%q) = %v, %d", text, got, errno)
		}
	}
	two := []api.Node{{Kind: api.KLen, Size: 2}, {Kind: api.KText, At: 4, Text: "a @\n", Size: 1}}
	if got, errno := Load("len @0\n  text \"a @\\n\" @4\n"); !slices.Equal(got.Nodes, two) || errno != api.OK {
		t.Errorf("P3.6: %v, %d", got, errno)
	}
}

func TestWaysInATree(t *testing.T) {
	for _, x := range grownTrees(600) {
		parents := plainParents(x.Nodes)
		for n := range x.Nodes {
			kids, _ := plainKids(x.Nodes, n)
			spine := []int{n}
			for p := parents[n]; p >= 0; p = parents[p] {
				spine = append(spine, p)
			}
			slices.Reverse(spine)
			last := n
			for last+1 < len(x.Nodes) && slices.Contains(Spine(x, last+1), n) {
				last++
			}
			if got := Last(x, n); got != last {
				t.Fatalf("P3.2: Last(%v, %d) = %d, want %d", x, n, got, last)
			}
			if got := Parent(x, n); got != parents[n] {
				t.Fatalf("P3.2: Parent(%v, %d) = %d, want %d", x, n, got, parents[n])
			}
			if got := Kids(x, n); !slices.Equal(got, kids) {
				t.Fatalf("P3.2: Kids(%v, %d) = %v, want %v", x, n, got, kids)
			}
			if got := Spine(x, n); !slices.Equal(got, spine) {
				t.Fatalf("P3.2: Spine(%v, %d) = %v, want %v", x, n, got, spine)
			}
			sub := Sub(x, n)
			if !slices.Equal(sub.Nodes, x.Nodes[n:last+1]) {
				t.Fatalf("P3.4: Sub(%v, %d) = %v", x, n, sub)
			}
			isTree := n == 0 || x.Nodes[n].Kind >= api.KInt
			if got := Valid(sub) == api.OK; got != isTree {
				t.Fatalf("P3.4: Sub(%v, %d) is a tree: %v", x, n, got)
			}
		}
	}
	deep := chain(50000)
	if spine := Spine(deep, 49999); len(spine) != 50000 || Parent(deep, 49999) != 49998 || Last(deep, 0) != 49999 || len(Kids(deep, 49998)) != 1 {
		t.Errorf("P3.2: a chain of 50000")
	}
}

func TestWaysInNoTree(t *testing.T) {
	checkNone := func(x api.Tree, n int) {
		t.Helper()
		if got := Last(x, n); got != -1 {
			t.Errorf("P3.2: Last(%v, %d) = %d", x, n, got)
		}
		if got := Parent(x, n); got != -1 {
			t.Errorf("P3.2: Parent(%v, %d) = %d", x, n, got)
		}
		if got := Kids(x, n); len(got) != 0 {
			t.Errorf("P3.2: Kids(%v, %d) = %v", x, n, got)
		}
		if got := Spine(x, n); len(got) != 0 {
			t.Errorf("P3.2: Spine(%v, %d) = %v", x, n, got)
		}
		if got := Sub(x, n); len(got.Nodes) != 0 {
			t.Errorf("P3.4: Sub(%v, %d) = %v", x, n, got)
		}
	}
	for _, n := range []int{-1, 7, 8, math.MinInt, math.MaxInt} {
		checkNone(example(), n)
		checkNone(api.Tree{}, n)
	}
	checkNone(api.Tree{}, 0)
	for i := range 7 {
		for _, change := range changes {
			x := example()
			change(&x.Nodes[i])
			if Valid(x) == api.OK {
				continue
			}
			for n := range 7 {
				checkNone(x, n)
			}
		}
	}
}

func TestSame(t *testing.T) {
	for i := range 7 {
		for c, change := range changes {
			x, y := example(), example()
			for n := range y.Nodes {
				y.Nodes[n].At += n
			}
			change(&y.Nodes[i])
			alike := plainTree(x.Nodes) && plainTree(y.Nodes)
			for n := range x.Nodes {
				a, b := x.Nodes[n], y.Nodes[n]
				alike = alike && a.Kind == b.Kind && a.Name == b.Name && a.Label == b.Label && a.Type == b.Type && a.Op == b.Op && a.Int == b.Int && a.Text == b.Text && a.Size == b.Size
			}
			if got := Same(x, y); got != alike {
				t.Errorf("P3.3: node %d, change %d: %v, want %v", i, c, got, alike)
			}
			if got := Same(y, x); got != alike {
				t.Errorf("P3.3: node %d, change %d, the other way: %v, want %v", i, c, got, alike)
			}
			if y.Nodes[i] != example().Nodes[i] && Valid(y) != api.OK && Same(y, y) {
				t.Errorf("P3.3: node %d, change %d: no tree is the same as another", i, c)
			}
		}
	}
	// Two lists with one thing wrong in both, or of other lengths.
	one, call := list(plain(api.KInt, 1)), list(plain(api.KCall, 1))
	if Same(api.Tree{}, api.Tree{}) || Same(one, api.Tree{}) || Same(api.Tree{}, one) || Same(one, call) || !Same(one, one) {
		t.Errorf("P3.3: lists of one node and of none")
	}
	if Same(list(plain(api.KCall, 2), plain(api.KInt, 1)), list(plain(api.KCall, 3), plain(api.KInt, 1), plain(api.KInt, 1))) {
		t.Errorf("P3.3: lists of two nodes and of three")
	}
	trees := grownTrees(40)
	for i, x := range trees {
		for j, y := range trees {
			want := len(x.Nodes) == len(y.Nodes)
			for n := range x.Nodes {
				if want {
					a, b := x.Nodes[n], y.Nodes[n]
					a.At, b.At = 0, 0
					want = fmt.Sprint(a) == fmt.Sprint(b)
				}
			}
			if got := Same(x, y); got != want {
				t.Errorf("P3.3: the grown trees %d and %d: %v, want %v", i, j, got, want)
			}
		}
	}
}

func TestDumpAndLoad(t *testing.T) {
	for _, x := range grownTrees(3000) {
		want := plainDump(x.Nodes)
		got, errno := Dump(x)
		if got != want || errno != api.OK {
			t.Fatalf("P3.5: Dump(%v) = %q, %d, want %q", x, got, errno, want)
		}
		if y, errno := Load(got); !slices.Equal(x.Nodes, y.Nodes) || errno != api.OK {
			t.Fatalf("P3.6: Load(%q) = %v, %d, want %v", got, y, errno, x)
		}
	}
	for i := range 7 {
		for _, change := range changes {
			x := example()
			change(&x.Nodes[i])
			got, errno := Dump(x)
			if Valid(x) != api.OK && (got != "" || errno != api.ErrTree) {
				t.Errorf("P3.5: Dump(%v) = %q, %d", x, got, errno)
			}
			if Valid(x) == api.OK && (got != plainDump(x.Nodes) || errno != api.OK) {
				t.Errorf("P3.5: Dump(%v) = %q, %d", x, got, errno)
			}
		}
	}
}

// Every operator has its sign, and no sign of the other kind is read.
func TestOperators(t *testing.T) {
	for op, sign := range opSigns {
		for _, c := range []struct {
			word        string
			kind        api.Kind
			first, last api.Op
			kids        int
		}{{"unary", api.KUnary, api.OpNeg, api.OpNot, 1}, {"binary", api.KBinary, api.OpAdd, api.OpOr, 2}} {
			text := c.word + " " + sign + " @0\n" + strings.Repeat("  int 0 @0\n", c.kids)
			x := list(append([]api.Node{{Kind: c.kind, Op: api.Op(op), Size: c.kids + 1}}, slices.Repeat([]api.Node{plain(api.KInt, 1)}, c.kids)...)...)
			if c.first <= api.Op(op) && api.Op(op) <= c.last {
				if got, errno := Dump(x); got != text || errno != api.OK {
					t.Errorf("P3.5: %q, %d, want %q", got, errno, text)
				}
				if got, errno := Load(text); !slices.Equal(got.Nodes, x.Nodes) || errno != api.OK {
					t.Errorf("P3.6: Load(%q) = %v, %d", text, got, errno)
				}
			} else if _, errno := Load(text); sign != "-" && errno != api.ErrDump {
				t.Errorf("P3.6: Load(%q): %d", text, errno)
			}
		}
	}
}

func checkLoad(t *testing.T, text string) (loaded bool) {
	t.Helper()
	want, ok := plainLoad(text)
	got, errno := Load(text)
	if ok && (errno != api.OK || !slices.Equal(got.Nodes, want)) {
		t.Fatalf("P3.6: Load(%q) = %v, %d, want %v", text, got, errno, want)
	}
	if !ok && (errno != api.ErrDump || got.Nodes != nil) {
		t.Fatalf("P3.6: Load(%q) = %v, %d, want none", text, got, errno)
	}
	if again, errno := Dump(got); ok && (errno != api.OK || again != text) {
		t.Fatalf("P3.6: the dump of Load(%q) is %q, %d", text, again, errno)
	}
	return ok
}

// Dumps with one byte out, in, or another: each is loaded just if it is the dump of a tree.
func TestLoadChanged(t *testing.T) {
	good, bad := 0, 0
	count := func(ok bool) {
		if ok {
			good++
		} else {
			bad++
		}
	}
	texts := []string{exampleDump, "len @0\n  text \"a @\\n\" @4\n", "program @0\n  fn f [int] @9\n    param a bool @2\n    block @3\n      for - i @12\n        int 10 @1\n        unary - @2\n          int 0 @3\n        block @4\n          hook 4 - @7\n"}
	for seed := range int64(40) {
		if x := grow(seed, seed%3 != 0); len(x.Nodes) < 12 {
			texts = append(texts, plainDump(x.Nodes))
		}
	}
	for _, text := range texts {
		if len(text) > 600 {
			continue
		}
		for i := range len(text) + 1 {
			for _, b := range "\x00\t\n\r !\"-+=|01459@[]\\_abiklntx{\x7f\xff" {
				count(checkLoad(t, text[:i]+string([]byte{byte(b)})+text[i:]))
				if i < len(text) {
					count(checkLoad(t, text[:i]+string([]byte{byte(b)})+text[i+1:]))
				}
			}
			if i < len(text) {
				count(checkLoad(t, text[:i]+text[i+1:]))
			}
		}
		lines := strings.SplitAfter(strings.TrimSuffix(text, "\n"), "\n")
		for i := range lines {
			for j := range lines {
				changed := slices.Clone(lines)
				changed[i], changed[j] = changed[j], changed[i]
				count(checkLoad(t, strings.Join(changed, "")+"\n"))
				count(checkLoad(t, strings.Join(slices.Insert(slices.Clone(lines), i, lines[j]), "")+"\n"))
			}
			count(checkLoad(t, strings.Join(slices.Delete(slices.Clone(lines), i, i+1), "")+"\n"))
		}
	}
	if good < 1000 || bad < 1000 {
		t.Errorf("%d good texts, %d bad ones", good, bad)
	}
}

// Every short list of pieces of dumps as a text.
func TestLoadPieces(t *testing.T) {
	pieces := []string{" ", "  ", "int", "name", "new", "text", "break", "hook", " -", " 1", "x", " x", " \"a\"", " @", "@0\n", " @0\n", "\n", " 00", "block", "program"}
	good := 0
	var try func(text string, left int)
	try = func(text string, left int) {
		if checkLoad(t, text) {
			good++
		}
		if left > 0 {
			for _, p := range pieces {
				try(text+p, left-1)
			}
		}
	}
	try("", 4)
	for _, head := range []string{"program @0\n  fn f int @0\n    block @0\n      ", "len @0\n  ", "unary ! @0\n"} {
		try(head, 3)
	}
	if good < 10 {
		t.Errorf("only %d texts are dumps", good)
	}
}

func TestLoadWrong(t *testing.T) {
	for _, text := range []string{"\n", "int 5 @0\n\n", "int 5 @0 \n", "int 5 @-1\n", "int -5 @0\n", "int +5 @0\n", "int 5\n", "int 5 @\n", "int @0\n", "int 5 6 @0\n", "int 5 @0 @0\n", "int 5 @ 0\n",
		"int 5 @9223372036854775808\n", "int 9223372036854775808 @0\n", "int 1_0 @0\n", "int 0x1 @0\n", "int - @0\n", "block @0\n", "len @0\n    int 5 @1\n", "len @0\nint 5 @1\n", "len @0\n", "bool 2 @0\n",
		"name - @0\n", "name  @0\n", "name @0\n", "name if @0\n", "name x y @0\n", "unary + @0\n  int 1 @0\n", "binary ! @0\n  int 1 @0\n  int 1 @0\n", "unary  @0\n  int 1 @0\n",
		"text \"\\x41\" @0\n", "text a @0\n", "text \"a\"@0\n", "text  \"a\" @0\n", "text \"a\"  @0\n", "text \"a\" \"b\" @0\n", "text \" @0\n", "text @0\n", "text  @0\n", "text - @0\n", "text \"a\nb\" @0\n", "text # @0\n",
		"what @0\n", "new - @0\n  int 1 @0\n", "int  5 @0\n", "\tint 5 @0\n", "int 5 @0\r\n", "  int 5 @0\n", " @0\n", "@0\n", "int 5 @0\nint 6 @0\n", "Int 5 @0\n", "text \"" + strings.Repeat("a", 201) + "\" @0\n",
		"program @0\n  fn f  @0\n    block @0\n", "program @0\n  fn f @0\n    block @0\n", "program @0\n  fn f - @0\n    block @0\n      break  @0\n", "program @0\n  fn f - @0\n    block @0\n      hook 1  @0\n",
		"program @0\n  fn f - @0\n    block @0\n      hook 0 - @0\n", "program @0\n  fn f - @0\n    block @0\n      return - @0\n", "program @0\n  fn f - @0\n    block @0\n      return 40001 @0\n"} {
		if got, errno := Load(text); got.Nodes != nil || errno != api.ErrDump {
			t.Errorf("P3.6: Load(%q) = %v, %d", text, got, errno)
		}
		checkLoad(t, text)
	}
	if _, errno := Load("text \"" + strings.Repeat("\\xff", 200) + "\" @9223372036854775807\n"); errno != api.OK {
		t.Errorf("P3.6: the longest text at the last place: %d", errno)
	}
}

func TestLongestDump(t *testing.T) {
	// A list of n calls' arguments can be made to have a dump of just so many bytes.
	sized := func(bytes int) api.Tree {
		l := []api.Node{{Kind: api.KCall, Name: "f"}}
		bytes -= len("call f @0\n")
		one := len("  int 0 @0\n")
		for ; bytes >= 2*one; bytes -= one {
			l = append(l, api.Node{Kind: api.KInt, Size: 1})
		}
		at := 0
		for range bytes - one {
			at = at*10 + 1
		}
		at = at*10 + 1
		l = append(l, api.Node{Kind: api.KInt, At: at, Size: 1})
		l[0].Size = len(l)
		return list(l...)
	}
	for _, bytes := range []int{api.MaxScan - 1, api.MaxScan} {
		x := sized(bytes)
		text, errno := Dump(x)
		if errno != api.OK || len(text) != bytes {
			t.Fatalf("P3.5: %d bytes: %d, %d", bytes, len(text), errno)
		}
		if y, errno := Load(text); errno != api.OK || !slices.Equal(x.Nodes, y.Nodes) {
			t.Errorf("P3.6: %d bytes: %d", bytes, errno)
		}
	}
	for _, bytes := range []int{api.MaxScan + 1, api.MaxScan + 100, 3 * api.MaxScan} {
		x := sized(bytes)
		if text, errno := Dump(x); errno != api.ErrSize || text != "" {
			t.Errorf("P3.5: %d bytes: %d, %d", bytes, len(text), errno)
		}
		if y, errno := Load(plainList(x.Nodes)); errno != api.ErrDump || y.Nodes != nil {
			t.Errorf("P3.6: %d bytes: %d", bytes, errno)
		}
		x.Nodes[len(x.Nodes)-1].At = -1
		if text, errno := Dump(x); errno != api.ErrTree || text != "" {
			t.Errorf("P3.5: %d bytes of no tree: %d", bytes, errno)
		}
	}
	if text, errno := Dump(chain(60000)); errno != api.ErrSize || text != "" {
		t.Errorf("P3.5: a chain of 60000: %d, %d", len(text), errno)
	}
}

// plainList is the dump of a call with numbers as its arguments.
func plainList(l []api.Node) string {
	var b strings.Builder
	b.WriteString("call f @0\n")
	for _, n := range l[1:] {
		fmt.Fprintf(&b, "  int %d @%d\n", n.Int, n.At)
	}
	return b.String()
}

// Lists of any numbers: nothing panics, and the definition holds.
func TestAnyLists(t *testing.T) {
	r := rand.New(rand.NewSource(3))
	numbers := []int{math.MinInt, -5, -1, 0, 1, 2, 3, 4, 5, 1 << 40, math.MaxInt - 1, math.MaxInt}
	texts := []string{"", "x", "if", "int", "[int]", "-", strings.Repeat("x", 300)}
	for range 200000 {
		var l []api.Node
		for range r.Intn(6) {
			n := api.Node{Kind: api.Kind(r.Intn(35) - 2), Size: numbers[r.Intn(len(numbers))], At: max(0, numbers[r.Intn(len(numbers))])}
			if r.Intn(3) > 0 {
				n = ofKind(n.Kind, n.Size)
			}
			if r.Intn(6) == 0 {
				n.Name, n.Label, n.Type, n.Text = texts[r.Intn(7)], texts[r.Intn(7)], texts[r.Intn(7)], texts[r.Intn(7)]
			}
			l = append(l, n)
		}
		if len(l) > 0 && r.Intn(2) == 0 {
			l[0].Size = len(l)
		}
		x := list(l...)
		checkValid(t, x)
		n := numbers[r.Intn(len(numbers))]
		Last(x, n)
		Parent(x, n)
		Kids(x, n)
		Spine(x, n)
		Sub(x, n)
		Same(x, x)
		Dump(x)
	}
	for range 100000 {
		b := make([]byte, r.Intn(20))
		for i := range b {
			b[i] = " @\n\"-intlenx0159"[r.Intn(16)]
		}
		checkLoad(t, string(b))
	}
}

// What is handed in stays as it is, spare room too, and no answer shares memory with it.
func TestNewMemory(t *testing.T) {
	for _, x := range append(grownTrees(50), example()) {
		kept := slices.Clone(x.Nodes)
		spare := append(slices.Clone(x.Nodes), api.Node{Name: "spare"})
		x.Nodes = spare[:len(spare)-1]
		before, _ := Dump(x)
		for n := range x.Nodes {
			a, b := Kids(x, n), Kids(x, n)
			fill(a)
			c, d := Spine(x, n), Spine(x, n)
			fill(c)
			if slices.Contains(b, -7) || slices.Contains(d, -7) {
				t.Fatalf("P3.7: two answers share memory")
			}
			sub, other := Sub(x, n), Sub(x, n)
			full := sub.Nodes[:cap(sub.Nodes)]
			for i := range full {
				full[i] = api.Node{Name: "filled"}
			}
			if !slices.Equal(other.Nodes, kept[n:n+kept[n].Size]) {
				t.Fatalf("P3.7: two subtrees share memory")
			}
			for i, node := range other.Nodes {
				for _, pair := range [][2]string{{node.Name, x.Nodes[n+i].Name}, {node.Label, x.Nodes[n+i].Label}, {node.Type, x.Nodes[n+i].Type}, {node.Text, x.Nodes[n+i].Text}} {
					if pair[0] != "" && unsafe.StringData(pair[0]) == unsafe.StringData(pair[1]) {
						t.Fatalf("P3.7: a text of Sub is the tree's own")
					}
				}
			}
			Last(x, n)
			Parent(x, n)
		}
		Same(x, x)
		Valid(x)
		text := strings.Clone(before)
		one, _ := Load(text)
		two, _ := Load(text)
		full := one.Nodes[:cap(one.Nodes)]
		for i := range full {
			full[i] = api.Node{Name: "filled"}
		}
		if !slices.Equal(two.Nodes, kept) {
			t.Fatalf("P3.7: two loaded trees share memory")
		}
		first := uintptr(unsafe.Pointer(unsafe.StringData(text)))
		for _, node := range two.Nodes {
			for _, s := range []string{node.Name, node.Label, node.Type, node.Text} {
				at := uintptr(unsafe.Pointer(unsafe.StringData(s)))
				if s != "" && first <= at && at < first+uintptr(len(text)) {
					t.Fatalf("P3.7: a text of Load is a piece of the dump")
				}
			}
		}
		if after, _ := Dump(x); after != before || !slices.Equal(x.Nodes, kept) || spare[len(spare)-1] != (api.Node{Name: "spare"}) {
			t.Fatalf("P3.7: the tree that was handed in has changed")
		}
	}
}

func fill(l []int) {
	l = l[:cap(l)]
	for i := range l {
		l[i] = -7
	}
}
