package check

import (
	"strings"

	"gristmill/api"
	"gristmill/node"
)

func TypeOf(n api.Node) (api.Type, bool) {
	if !isType(n) {
		return api.Type{}, false
	}
	return typeOf(n), true
}

// isType asks of a node what chapter 2's table asks of a type's. A slice that lies within itself never comes to what its elements are.
func isType(n api.Node) bool {
	ahead := map[*api.Node]struct{}{}
	for n.Kind == api.NodeSlice {
		if n.Text != "" || n.Num != 0 || n.At < 0 || len(n.Kids) != 1 {
			return false
		}
		kid := &n.Kids[0]
		if _, again := ahead[kid]; again {
			return false
		}
		ahead[kid] = struct{}{}
		n = *kid
	}
	return n.Kind == api.NodeType && node.Right(api.Node{Kind: api.NodeBlock, Kids: []api.Node{
		{Kind: api.NodeVar, Text: "v", Kids: []api.Node{n}},
	}})
}

// typeOf is called of right nodes alone.
func typeOf(n api.Node) api.Type {
	slices := 0
	for n.Kind == api.NodeSlice {
		n = n.Kids[0]
		slices++
	}
	t := named(n.Text)
	for range slices {
		t = sliceOf(t)
	}
	return t
}

func named(name string) api.Type {
	if kind, ok := plainKind(name); ok {
		return plain(kind)
	}
	return api.Type{Kind: api.TypeStruct, Name: strings.Clone(name)}
}

func plainKind(name string) (api.TypeKind, bool) {
	switch name {
	case "int":
		return api.TypeInt, true
	case "bool":
		return api.TypeBool, true
	case "string":
		return api.TypeString, true
	case "float64":
		return api.TypeFloat, true
	}
	return 0, false
}

func plain(kind api.TypeKind) api.Type { return api.Type{Kind: kind} }

func sliceOf(t api.Type) api.Type {
	return api.Type{Kind: api.TypeSlice, Elem: []api.Type{t}}
}

// lists are two rows of as many types, by where they lie.
type lists struct {
	a, b *api.Type
	many int
}

// SameType goes through types with a stack of its own, and through two lists once: types may be deep, or lie within themselves.
func SameType(a, b api.Type) bool {
	type two struct{ a, b api.Type }
	asked := map[lists]struct{}{}
	todo := []two{{a, b}}
	for len(todo) > 0 {
		last := len(todo) - 1
		x, y := todo[last].a, todo[last].b
		todo = todo[:last]
		if x.Kind != y.Kind || x.Name != y.Name || len(x.Elem) != len(y.Elem) {
			return false
		}
		if len(x.Elem) == 0 {
			continue
		}
		elems := lists{&x.Elem[0], &y.Elem[0], len(x.Elem)}
		if _, again := asked[elems]; again {
			continue
		}
		asked[elems] = struct{}{}
		for i := range x.Elem {
			todo = append(todo, two{x.Elem[i], y.Elem[i]})
		}
	}
	return true
}
