package check

import (
	"math"

	"gristmill/api"
	"gristmill/num"
)

// isConstant is asked of expressions that are known to have a value.
func isConstant(n api.Node) bool {
	switch n.Kind {
	case api.NodeInt, api.NodeFloat, api.NodeString, api.NodeBool:
		return true
	case api.NodeUnary:
		kid := n.Kids[0]
		if n.Text == "!" {
			return isConstant(kid)
		}
		return kid.Kind == api.NodeInt || kid.Kind == api.NodeFloat
	case api.NodeCall:
		return (n.Text == "float64" || n.Text == "len") && isConstant(n.Kids[0])
	}
	return false
}

// isNought tells a constant of type int that is 0.
func isNought(n api.Node) bool {
	switch n.Kind {
	case api.NodeCall:
		return n.Text == "len" && n.Kids[0].Kind == api.NodeString && n.Kids[0].Text == ""
	case api.NodeUnary:
		n = n.Kids[0]
	}
	return n.Kind == api.NodeInt && readInt(n) == 0
}

// isBelowNought tells a minus ahead of a NodeInt that is not 0.
func isBelowNought(n api.Node) bool {
	l, ok := literalOf(n)
	return ok && l.whole < 0
}

// literal is what a number or a string, or a minus ahead of a number, says: of one type one of these.
type literal struct {
	whole int64
	float float64
	text  string
}

func literalOf(n api.Node) (literal, bool) {
	switch n.Kind {
	case api.NodeInt:
		return literal{whole: readInt(n)}, true
	case api.NodeFloat:
		return literal{float: readFloat(n)}, true
	case api.NodeString:
		return literal{text: n.Text}, true
	case api.NodeUnary:
		l, ok := literalOf(n.Kids[0])
		return literal{-l.whole, -l.float, l.text}, ok
	}
	return literal{}, false
}

func readInt(n api.Node) int64 {
	whole, _ := num.ReadInt(n.Text)
	return whole
}

func readFloat(n api.Node) float64 {
	bits, _ := num.ReadFloat(n.Text)
	return math.Float64frombits(bits)
}
