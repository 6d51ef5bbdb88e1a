package eval

import (
	"slices"

	"gristmill/api"
)

// cell is a value while a program runs. A slice and a struct have a row, which other cells may have, too, as long as none of them sets it.
type cell struct {
	kind api.TypeKind
	num  int64 // of a bool 1 or 0
	bits uint64
	text string
	row  *row
}

// row is a slice's elements, or the fields of a struct.
type row struct {
	name   string
	parts  []cell
	many   int  // how many values it is, and are in it
	shared bool // whether more than one cell may have it
}

func intOf(n int64) cell { return cell{kind: api.TypeInt, num: n} }

func floatOf(bits uint64) cell { return cell{kind: api.TypeFloat, bits: bits} }

func stringOf(s string) cell { return cell{kind: api.TypeString, text: s} }

func boolOf(is bool) cell {
	c := cell{kind: api.TypeBool}
	if is {
		c.num = 1
	}
	return c
}

func sliceOf(parts []cell) cell {
	return cell{kind: api.TypeSlice, row: rowOf("", parts)}
}

func structOf(name string, parts []cell) cell {
	return cell{kind: api.TypeStruct, row: rowOf(name, parts)}
}

// rowOf takes parts that may be elsewhere, too.
func rowOf(name string, parts []cell) *row {
	share(parts...)
	return &row{name: name, parts: parts, many: 1 + manyOf(parts)}
}

func share(cells ...cell) {
	for _, c := range cells {
		if c.row != nil {
			c.row.shared = true
		}
	}
}

// many is how many values a cell is, and are in it.
func (c cell) many() int {
	if c.row == nil {
		return 1
	}
	return c.row.many
}

func manyOf(cells []cell) int {
	many := 0
	for _, c := range cells {
		many += c.many()
	}
	return many
}

// own is the row of a cell that is about to be set: one that no other cell has.
func (c *cell) own() *row {
	if c.row.shared {
		c.row = rowOf(c.row.name, slices.Clone(c.row.parts))
	}
	return c.row
}
