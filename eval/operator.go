package eval

import (
	"strings"

	"gristmill/api"
	"gristmill/num"
)

const signBit = 1 << 63

func (r *runner) unary(n *api.Node) cell {
	c := r.value(&n.Kids[0])
	switch {
	case n.Text == "!":
		return boolOf(c.num == 0)
	case c.kind == api.TypeFloat:
		return floatOf(num.Plain(c.bits ^ signBit)) // there is but one NaN
	}
	i, _ := num.Int("-", 0, c.num)
	return intOf(i)
}

func (r *runner) binary(n *api.Node) cell {
	a := r.value(&n.Kids[0])
	switch {
	case n.Text == "&&" && a.num == 0, n.Text == "||" && a.num == 1:
		return a
	}
	b := r.value(&n.Kids[1])
	switch n.Text {
	case "&&", "||":
		return b
	case "==", "!=", "<", "<=", ">", ">=":
		return boolOf(compare(n.Text, a, b))
	}
	return r.join(n.Text, a, b)
}

func compare(op string, a, b cell) bool {
	var is bool
	switch a.kind {
	case api.TypeFloat:
		is, _ = num.FloatIs(op, a.bits, b.bits)
	case api.TypeString:
		is, _ = num.IntIs(op, int64(strings.Compare(a.text, b.text)), 0)
	default:
		is, _ = num.IntIs(op, a.num, b.num)
	}
	return is
}

func (r *runner) join(op string, a, b cell) cell {
	switch a.kind {
	case api.TypeFloat:
		bits, _ := num.Float(op, a.bits, b.bits)
		return floatOf(bits)
	case api.TypeString:
		r.spend(len(a.text) + len(b.text))
		return stringOf(a.text + b.text)
	}
	i, e := num.Int(op, a.num, b.num)
	r.must(e == api.OK, e)
	return intOf(i)
}
