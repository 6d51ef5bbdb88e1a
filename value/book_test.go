package value_test

import (
	"fmt"
	"math"
	"slices"
	"strings"

	"gristmill/api"
	"gristmill/check"
	"gristmill/scan"
)

// What the document says, in its own order, by functions that call themselves.

func bookStruct(file api.Node, name string) (api.Node, bool) {
	for _, kid := range file.Kids {
		if kid.Kind == api.NodeStruct && kid.Text == name {
			return kid, true
		}
	}
	return api.Node{}, false
}

// bookFields are the types of a struct's fields, if each has just one Kid of which TypeOf tells a type.
func bookFields(s api.Node) ([]api.Type, bool) {
	var types []api.Type
	for _, kid := range s.Kids {
		if len(kid.Kids) != 1 {
			return nil, false
		}
		t, ok := check.TypeOf(kid.Kids[0])
		if !ok {
			return nil, false
		}
		types = append(types, t)
	}
	return types, true
}

func bookKnown(file api.Node, t api.Type) bool {
	switch t.Kind {
	case api.TypeInt, api.TypeBool, api.TypeString, api.TypeFloat:
		return t.Name == "" && len(t.Elem) == 0
	case api.TypeSlice:
		return t.Name == "" && len(t.Elem) == 1 && bookKnown(file, t.Elem[0])
	case api.TypeStruct:
		s, ok := bookStruct(file, t.Name)
		if !ok || len(t.Elem) != 0 {
			return false
		}
		_, ok = bookFields(s)
		return ok
	}
	return false
}

// bookZero is a type's zero value, if it has one: around are the structs around it.
func bookZero(file api.Node, t api.Type, around ...string) (api.Value, bool) {
	if !bookKnown(file, t) || slices.Contains(around, t.Name) && t.Kind == api.TypeStruct {
		return api.Value{}, false
	}
	v := api.Value{Kind: t.Kind}
	if t.Kind == api.TypeStruct {
		v.Name = t.Name
		s, _ := bookStruct(file, t.Name)
		types, _ := bookFields(s)
		for _, of := range types {
			part, ok := bookZero(file, of, append(slices.Clone(around), t.Name)...)
			if !ok {
				return api.Value{}, false
			}
			v.Parts = append(v.Parts, part)
		}
	}
	return v, bookMany(v) <= 1<<15
}

func bookMany(v api.Value) int {
	many := 1
	for _, part := range v.Parts {
		many += bookMany(part)
	}
	return many
}

func bookIs(file api.Node, v api.Value, t api.Type) bool {
	if !bookKnown(file, t) || v.Kind != t.Kind {
		return false
	}
	noNum, noText, noBits, noName, noParts := v.Num == 0, v.Text == "", v.Bits == 0, v.Name == "", len(v.Parts) == 0
	switch v.Kind {
	case api.TypeInt:
		return noText && noBits && noName && noParts
	case api.TypeBool:
		return (v.Num == 0 || v.Num == 1) && noText && noBits && noName && noParts
	case api.TypeString:
		return noNum && noBits && noName && noParts
	case api.TypeFloat:
		isNaN := math.IsNaN(math.Float64frombits(v.Bits))
		return noNum && noText && noName && noParts && (!isNaN || v.Bits == 0x7ff8000000000001)
	case api.TypeSlice:
		for _, part := range v.Parts {
			if !bookIs(file, part, t.Elem[0]) {
				return false
			}
		}
		return noNum && noText && noBits && noName
	}
	s, _ := bookStruct(file, t.Name)
	types, _ := bookFields(s)
	if len(types) != len(v.Parts) {
		return false
	}
	for i, part := range v.Parts {
		if !bookIs(file, part, types[i]) {
			return false
		}
	}
	return noNum && noText && noBits && v.Name == t.Name
}

func bookText(v api.Value) string {
	var parts []string
	for _, part := range v.Parts {
		parts = append(parts, bookText(part))
	}
	row := strings.Join(parts, " ")
	switch v.Kind {
	case api.TypeInt:
		return fmt.Sprint(v.Num)
	case api.TypeBool:
		return fmt.Sprint(v.Num == 1)
	case api.TypeString:
		return scan.Quote(v.Text)
	case api.TypeFloat:
		return fmt.Sprintf("0x%016x", v.Bits)
	case api.TypeSlice:
		return "[" + row + "]"
	case api.TypeStruct:
		return v.Name + "{" + row + "}"
	}
	return "?"
}
