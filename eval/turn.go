package eval

import (
	"strings"

	"gristmill/api"
)

// pair is a row, and the Parts of the value that it stands for.
type pair struct {
	row   *row
	parts []api.Value
}

// pairs are what is still to be filled, on either side.
type pairs []pair

func (p pairs) push(c cell, v api.Value) pairs {
	if c.row == nil {
		return p
	}
	return append(p, pair{c.row, v.Parts})
}

// take makes a cell of a value, row by row: a call within a call for each value within could go too deep.
func take(v api.Value) cell {
	c := empty(v)
	var rows []*row // each behind the one that it is in
	todo := pairs{}.push(c, v)
	for len(todo) > 0 {
		last := len(todo) - 1
		p := todo[last]
		todo = todo[:last]
		rows = append(rows, p.row)
		for i, part := range p.parts {
			p.row.parts[i] = empty(part)
			todo = todo.push(p.row.parts[i], part)
		}
	}
	for i := len(rows) - 1; i >= 0; i-- {
		rows[i].many = 1 + manyOf(rows[i].parts)
	}
	return c
}

// empty is a value's cell, whose row has to be filled.
func empty(v api.Value) cell {
	c := cell{kind: v.Kind, num: v.Num, bits: v.Bits, text: v.Text}
	if v.Kind == api.TypeSlice || v.Kind == api.TypeStruct {
		c.row = &row{name: v.Name, parts: make([]cell, len(v.Parts))}
	}
	return c
}

// tell makes a value of a cell, likewise, in new memory.
func tell(c cell) api.Value {
	v := bare(c)
	todo := pairs{}.push(c, v)
	for len(todo) > 0 {
		last := len(todo) - 1
		p := todo[last]
		todo = todo[:last]
		for i, part := range p.row.parts {
			p.parts[i] = bare(part)
			todo = todo.push(part, p.parts[i])
		}
	}
	return v
}

// bare is a cell's value, whose Parts have to be filled.
func bare(c cell) api.Value {
	v := api.Value{Kind: c.kind, Num: c.num, Bits: c.bits, Text: strings.Clone(c.text)}
	if c.row == nil {
		return v
	}
	v.Name = strings.Clone(c.row.name)
	if len(c.row.parts) > 0 {
		v.Parts = make([]api.Value, len(c.row.parts))
	}
	return v
}
