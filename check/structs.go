package check

import (
	"gristmill/api"
)

// structure is a struct of the file.
type structure struct {
	fields map[string]api.Type
	within []*structure // of each field that is a struct
	others int          // how many fields are none
	values int          // how many it is, when that was counted
	asked  *structure   // the last one that was looked for in it
}

// structures goes through the structs thrice: each look needs what the one ahead has told of all of them.
func (c *checker) structures(n api.Node) {
	structs := kidsOf(n, api.NodeStruct)
	for _, s := range structs {
		c.fields(s)
	}
	for _, s := range structs {
		it := c.structs[s.Text]
		must(!it.has(it), api.ErrLoop, s)
	}
	for _, s := range structs {
		must(c.structs[s.Text].count() <= api.MaxNodes, api.ErrMany, s)
	}
}

func (c *checker) fields(n api.Node) {
	s := c.structs[n.Text]
	for _, f := range n.Kids {
		_, twice := s.fields[f.Text]
		must(!twice, api.ErrTwice, f)
		c.typeNames(f.Kids[0])
		t := typeOf(f.Kids[0])
		s.fields[f.Text] = t
		if t.Kind == api.TypeStruct {
			s.within = append(s.within, c.structs[t.Name])
		} else {
			s.others++
		}
	}
}

func (s *structure) has(it *structure) bool {
	s.asked = it
	for _, in := range s.within {
		if in == it || in.asked != it && in.has(it) {
			return true
		}
	}
	return false
}

// count stops at one more than a struct may be: what is beyond could be beyond all ints.
func (s *structure) count() int {
	if s.values == 0 {
		s.values = 1 + s.others
		for _, in := range s.within {
			s.values = min(s.values+in.count(), api.MaxNodes+1)
		}
	}
	return s.values
}
