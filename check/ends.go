package check

import (
	"gristmill/api"
)

// endsAll tells whether what stands behind a statement is never come to.
func endsAll(n api.Node) bool {
	switch n.Kind {
	case api.NodeReturn:
		return true
	case api.NodeDo:
		return n.Kids[0].Text == "panic"
	case api.NodeBlock:
		last := len(n.Kids) - 1
		return last >= 0 && endsAll(n.Kids[last])
	case api.NodeIf:
		return len(n.Kids) == 3 && endsAll(n.Kids[1]) && endsAll(n.Kids[2])
	case api.NodeFor:
		return len(n.Kids) == 1 && !isLeft(n)
	case api.NodeSwitch:
		return endsAllCases(n) && !isLeft(n)
	}
	return false
}

// endsAllCases tells whether one of the cases is come to in any case, and all end.
func endsAllCases(n api.Node) bool {
	others := false
	for _, one := range n.Kids[1:] {
		last := len(one.Kids) - 1
		if !endsAll(one.Kids[last]) {
			return false
		}
		others = others || last == 0
	}
	return others
}

// isLeft tells whether a break leaves a for or a switch.
func isLeft(n api.Node) bool {
	for _, kid := range n.Kids {
		if hasBreak(kid, n.Text, true) {
			return true
		}
	}
	return false
}

// hasBreak tells whether a break with a label is in a node, or (of bare) one without, that is in no other for or switch there.
func hasBreak(n api.Node, label string, bare bool) bool {
	switch n.Kind {
	case api.NodeBreak:
		return n.Text == label && n.Text != "" || n.Text == "" && bare
	case api.NodeFor, api.NodeSwitch:
		bare = false
	}
	for _, kid := range n.Kids {
		if hasBreak(kid, label, bare) {
			return true
		}
	}
	return false
}
