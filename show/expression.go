package show

import (
	"strconv"

	"gristmill/api"
	"gristmill/scan"
)

// How strongly an expression binds, or is asked to where it stands.
const (
	bindsLeast  = 1
	bindsUnary  = 6
	bindsMost   = 7
	bindsBeyond = 8 // asked for where even what binds most stands in parentheses
)

func binds(n api.Node) int {
	switch n.Kind {
	case api.NodeBinary:
		return bindsBetween(n.Text)
	case api.NodeUnary:
		return bindsUnary
	}
	return bindsMost
}

func bindsBetween(sign string) int {
	switch sign {
	case "||":
		return 1
	case "&&":
		return 2
	case "+", "-":
		return 4
	case "*", "/", "%":
		return 5
	}
	return 3
}

// whole writes an expression where any may stand.
func (w *writer) whole(n api.Node) { w.expression(n, bindsLeast) }

func (w *writer) expression(n api.Node, least int) {
	if binds(n) < least || w.head && n.Kind == api.NodeMake {
		w.within("(", []api.Node{n}, w.whole, ")")
		return
	}
	switch n.Kind {
	case api.NodeUnary:
		w.unary(n)
	case api.NodeBinary:
		w.binary(n)
	case api.NodeCall, api.NodeList, api.NodeMake:
		w.listing(n)
	case api.NodeIndex, api.NodeUpTo, api.NodePart:
		w.part(n)
	default:
		w.put(leaf(n))
	}
}

// binary writes what binds from the left: only behind the sign one that binds alike stands in parentheses.
func (w *writer) binary(n api.Node) {
	level := binds(n)
	w.expression(n.Kids[0], level)
	w.put(" ", n.Text, " ")
	w.expression(n.Kids[1], level+1)
}

// unary keeps a - behind a - from being read as another sign.
func (w *writer) unary(n api.Node) {
	w.put(n.Text)
	kid := n.Kids[0]
	if n.Text == "-" && kid.Kind == api.NodeUnary && kid.Text == "-" {
		w.expression(kid, bindsBeyond)
	} else {
		w.expression(kid, bindsUnary)
	}
}

func (w *writer) listing(n api.Node) {
	switch n.Kind {
	case api.NodeCall:
		w.put(n.Text)
		w.within("(", n.Kids, w.whole, ")")
	case api.NodeList:
		w.typed(n.Kids[0])
		w.within("{", n.Kids[1:], w.whole, "}")
	case api.NodeMake:
		w.put(n.Text)
		w.within("{", n.Kids, func(key api.Node) {
			w.put(key.Text, ": ")
			w.whole(key.Kids[0])
		}, "}")
	}
}

func (w *writer) part(n api.Node) {
	of := n.Kids[0]
	if n.Kind == api.NodePart && (of.Kind == api.NodeInt || of.Kind == api.NodeFloat) {
		w.expression(of, bindsBeyond)
	} else {
		w.expression(of, bindsMost)
	}
	switch n.Kind {
	case api.NodeIndex:
		w.within("[", n.Kids[1:], w.whole, "]")
	case api.NodeUpTo:
		w.within("[:", n.Kids[1:], w.whole, "]")
	case api.NodePart:
		w.put(".", n.Text)
	}
}

// leaf is the text of an expression without Kids.
func leaf(n api.Node) string {
	switch n.Kind {
	case api.NodeString:
		return scan.Quote(n.Text)
	case api.NodeBool:
		return strconv.FormatBool(n.Num == 1)
	case api.NodeDollar:
		if n.Num == 0 {
			return "$$"
		}
		return "$" + strconv.Itoa(n.Num)
	}
	return n.Text
}
