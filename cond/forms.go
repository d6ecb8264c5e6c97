package cond

import (
	"strconv"

	"retrace/api"
	"retrace/value"
)

// scene is an expression that has a type, with what it is worked out over.
type scene struct {
	nodes []api.Node
	vars  map[string]api.Shown
	heap
}

// failure is why an expression that has a type has no value.
type failure struct {
	errno api.Errno
}

func (f failure) Error() string {
	return "no value: error " + strconv.Itoa(int(f.errno))
}

// form works out the nodes of one kind.
type form func(s *scene, n int) (api.Value, error)

// forms are by kind; a call and a new have none, as they have no type here. The forms ask the table for their kids, so they cannot stand in its declaration: the language refuses a variable whose starting value hangs on itself.
var forms [api.KStr + 1]form

func init() {
	forms[api.KInt] = (*scene).literalInt
	forms[api.KBool] = (*scene).literalBool
	forms[api.KText] = (*scene).literalText
	forms[api.KName] = (*scene).variable
	forms[api.KIndex] = (*scene).element
	forms[api.KUnary] = (*scene).unary
	forms[api.KBinary] = (*scene).binary
	forms[api.KLen] = (*scene).length
	forms[api.KStr] = (*scene).str
}

// worth is the value of a node. It calls itself no deeper than an expression may be nested.
func (s *scene) worth(n int) (api.Value, error) {
	return forms[s.nodes[n].Kind](s, n)
}

// both are the values of a node's two kids.
func (s *scene) both(n int) (first, second api.Value, err error) {
	first, err = s.worth(n + 1)
	if err != nil {
		return api.Value{}, api.Value{}, err
	}
	second, err = s.worth(s.right(n))
	return first, second, err
}

// right is the second kid of a node.
func (s *scene) right(n int) int {
	return n + 1 + s.nodes[n+1].Size
}

func (s *scene) literalInt(n int) (api.Value, error) {
	return number(s.nodes[n].Int), nil
}

func (s *scene) literalBool(n int) (api.Value, error) {
	return api.Value{Kind: api.ValBool, Int: s.nodes[n].Int}, nil
}

func (s *scene) literalText(n int) (api.Value, error) {
	return text(s.nodes[n].Text), nil
}

func (s *scene) variable(n int) (api.Value, error) {
	return s.fitting(n, s.vars[s.nodes[n].Name].Value)
}

func (s *scene) element(n int) (api.Value, error) {
	of, index, err := s.both(n)
	switch {
	case err != nil:
		return api.Value{}, err
	case of.Kind == api.ValText:
		return orTrap(value.At(of, index))
	}
	list := s.list(of)
	if index.Int < 0 || index.Int >= int64(len(list)) {
		return api.Value{}, failure{api.ErrTrap}
	}
	return s.fitting(n, list[index.Int])
}

func (s *scene) unary(n int) (api.Value, error) {
	v, err := s.worth(n + 1)
	if err != nil {
		return api.Value{}, err
	}
	return orTrap(value.Unary(s.nodes[n].Op, v))
}

func (s *scene) binary(n int) (api.Value, error) {
	op := s.nodes[n].Op
	switch op {
	case api.OpAnd:
		return s.unless(n, 0)
	case api.OpOr:
		return s.unless(n, 1)
	}
	first, second, err := s.both(n)
	if err != nil {
		return api.Value{}, err
	}
	return orTrap(value.Binary(op, first, second))
}

// unless is what the left side is worth, if that is the bool which decides, else what the right one is.
func (s *scene) unless(n int, decides int64) (api.Value, error) {
	left, err := s.worth(n + 1)
	if err != nil || left.Int == decides {
		return left, err
	}
	return s.worth(s.right(n))
}

func (s *scene) length(n int) (api.Value, error) {
	of, err := s.worth(n + 1)
	switch {
	case err != nil:
		return api.Value{}, err
	case of.Kind == api.ValText:
		return number(int64(len(of.Text))), nil
	}
	return number(int64(len(s.list(of)))), nil
}

func (s *scene) str(n int) (api.Value, error) {
	v, err := s.worth(n + 1)
	if err != nil {
		return api.Value{}, err
	}
	return text(value.Str(v)), nil
}

// fitting is the value that was found for a variable or for an element of an array, if it fits the node's type.
func (s *scene) fitting(n int, v api.Value) (api.Value, error) {
	if !s.fits(v, s.typing(n)) {
		return api.Value{}, failure{api.ErrArg}
	}
	return v, nil
}

// typing is the type of a variable, or of an element of an array. As nothing here makes an array, each one is reached from a variable by indexes, and these take a pair of brackets each.
func (s *scene) typing(n int) string {
	pairs := 0
	for s.nodes[n].Kind == api.KIndex {
		n++
		pairs++
	}
	whole := s.vars[s.nodes[n].Name].Var.Type
	return whole[pairs : len(whole)-pairs]
}

// orTrap is a value, or the failure if there is a trap in its place.
func orTrap(v api.Value, trap api.Trap) (api.Value, error) {
	if trap != api.NoTrap {
		return api.Value{}, failure{api.ErrTrap}
	}
	return v, nil
}

func number(n int64) api.Value {
	return api.Value{Kind: api.ValInt, Int: n}
}

func text(s string) api.Value {
	return api.Value{Kind: api.ValText, Text: s}
}
