package check

import (
	"gristmill/api"
	"gristmill/num"
)

// expression tells the types of what an expression comes to: one, but of calls.
func (c *checker) expression(n api.Node) []api.Type {
	if n.Kind == api.NodeCall {
		return c.call(n)
	}
	return []api.Type{c.typed(n)}
}

func (c *checker) value(n api.Node) api.Type {
	types := c.expression(n)
	must(len(types) == 1, api.ErrCount, n)
	return types[0]
}

func (c *checker) want(n api.Node, t api.Type) {
	must(SameType(c.value(n), t), api.ErrType, n)
}

// typed tells the type of an expression that is no call.
func (c *checker) typed(n api.Node) api.Type {
	switch n.Kind {
	case api.NodeInt:
		_, ok := num.ReadInt(n.Text)
		must(ok, api.ErrConst, n)
		return plain(api.TypeInt)
	case api.NodeFloat:
		return plain(api.TypeFloat)
	case api.NodeString:
		return plain(api.TypeString)
	case api.NodeBool:
		return plain(api.TypeBool)
	case api.NodeName:
		t, ok := c.Use(n.Text)
		must(ok, api.ErrName, n)
		return t
	case api.NodeUnary:
		return c.unary(n)
	case api.NodeBinary:
		return c.binary(n)
	case api.NodePart:
		return c.part(n)
	case api.NodeList:
		return c.list(n)
	case api.NodeMake:
		return c.making(n)
	}
	return c.element(n)
}

func (c *checker) unary(n api.Node) api.Type {
	x := n.Kids[0]
	t := c.value(x)
	if n.Text == "!" {
		must(t.Kind == api.TypeBool, api.ErrType, n)
		return t
	}
	must(t.Kind == api.TypeInt || t.Kind == api.TypeFloat, api.ErrType, n)
	must(x.Kind == api.NodeInt || x.Kind == api.NodeFloat || !isConstant(x), api.ErrConst, n)
	must(x.Kind != api.NodeFloat || readFloat(x) != 0, api.ErrConst, n)
	return t
}

func (c *checker) binary(n api.Node) api.Type {
	x, y := n.Kids[0], n.Kids[1]
	t, other := c.value(x), c.value(y)
	must(SameType(t, other) && isBetween(n.Text, t.Kind), api.ErrType, n)
	must(!isConstant(x) || !isConstant(y), api.ErrConst, n)
	switch n.Text {
	case "/", "%":
		must(t.Kind != api.TypeInt || !isNought(y), api.ErrConst, n)
		return t
	case "+", "-", "*":
		return t
	}
	return plain(api.TypeBool)
}

// isBetween tells whether an operator may stand between two of a kind.
func isBetween(sign string, kind api.TypeKind) bool {
	switch sign {
	case "==", "!=":
		return isPlain(plain(kind))
	case "<", "<=", ">", ">=", "+":
		return kind == api.TypeInt || kind == api.TypeString || kind == api.TypeFloat
	case "-", "*", "/":
		return kind == api.TypeInt || kind == api.TypeFloat
	case "%":
		return kind == api.TypeInt
	}
	return kind == api.TypeBool
}

func isPlain(t api.Type) bool {
	switch t.Kind {
	case api.TypeInt, api.TypeBool, api.TypeString, api.TypeFloat:
		return true
	}
	return false
}

// element is of a NodeIndex or a NodeUpTo.
func (c *checker) element(n api.Node) api.Type {
	t := c.value(n.Kids[0])
	must(t.Kind == api.TypeSlice, api.ErrType, n)
	c.want(n.Kids[1], plain(api.TypeInt))
	must(!isBelowNought(n.Kids[1]), api.ErrConst, n.Kids[1])
	if n.Kind == api.NodeIndex {
		return t.Elem[0]
	}
	return t
}

func (c *checker) part(n api.Node) api.Type {
	t := c.value(n.Kids[0])
	must(t.Kind == api.TypeStruct, api.ErrType, n)
	field, ok := c.structs[t.Name].fields[n.Text]
	must(ok, api.ErrName, n)
	return field
}

func (c *checker) list(n api.Node) api.Type {
	c.typeNames(n.Kids[0])
	t := typeOf(n.Kids[0])
	for _, x := range n.Kids[1:] {
		c.want(x, t.Elem[0])
	}
	return t
}

func (c *checker) making(n api.Node) api.Type {
	s, ok := c.structs[n.Text]
	must(ok, api.ErrName, n)
	ahead := map[string]struct{}{}
	for _, key := range n.Kids {
		field, ok := s.fields[key.Text]
		must(ok, api.ErrName, key)
		_, twice := ahead[key.Text]
		must(!twice, api.ErrTwice, key)
		ahead[key.Text] = struct{}{}
		c.want(key.Kids[0], field)
	}
	return named(n.Text)
}
