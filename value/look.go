package value

import (
	"gristmill/api"
	"gristmill/check"
)

// look is a file of which types are asked, and how many values were made of them.
type look struct {
	api.Node
	structs map[string]*structure
	made    int
}

// structure is a struct of the file, and the types of its fields, when they were asked.
type structure struct {
	api.Node
	types       []api.Type
	told, known bool
}

// know ends the look at a type that is not known.
func (l *look) know(t api.Type) {
	t = innermost(t)
	must(len(t.Elem) == 0)
	switch t.Kind {
	case api.TypeInt, api.TypeBool, api.TypeString, api.TypeFloat:
		must(t.Name == "")
	case api.TypeStruct:
		l.fields(t.Name)
	default:
		must(false)
	}
}

// innermost is what a slice's elements, or theirs, are that are no slices. One that lies within itself has none.
func innermost(t api.Type) api.Type {
	ahead := map[*api.Type]struct{}{}
	for t.Kind == api.TypeSlice {
		must(t.Name == "" && len(t.Elem) == 1)
		elem := &t.Elem[0]
		_, again := ahead[elem]
		must(!again)
		ahead[elem] = struct{}{}
		t = *elem
	}
	return t
}

// fields tells a struct whose fields all have types, be these known or not.
func (l *look) fields(name string) *structure {
	s := l.named(name)
	if !s.told {
		for _, field := range s.Kids {
			must(len(field.Kids) == 1)
			t, ok := check.TypeOf(field.Kids[0])
			must(ok)
			s.types = append(s.types, t)
		}
		s.told = true
	}
	return s
}

// parts tells the types of a struct's fields. One of them that is not known has no value, nor has the struct then.
func (l *look) parts(name string) []api.Type {
	s := l.fields(name)
	if !s.known {
		for _, t := range s.types {
			l.know(t)
		}
		s.known = true
	}
	return s.types
}

// named goes through the file when it is first asked for a struct: most types have none.
func (l *look) named(name string) *structure {
	if l.structs == nil {
		l.structs = map[string]*structure{}
		for _, kid := range l.Kids {
			if _, ahead := l.structs[kid.Text]; kid.Kind == api.NodeStruct && !ahead {
				l.structs[kid.Text] = &structure{Node: kid}
			}
		}
	}
	s, ok := l.structs[name]
	must(ok)
	return s
}
