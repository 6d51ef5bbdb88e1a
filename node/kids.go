package node

import (
	"slices"

	"gristmill/api"
)

// asked is a question to a node: whether it may stand at a place among another one's Kids.
type asked func(n api.Node) bool

func of(kinds ...api.NodeKind) asked {
	return func(n api.Node) bool { return slices.Contains(kinds, n.Kind) }
}

func types() asked { return of(api.NodeType, api.NodeSlice) }

func blocks() asked { return of(api.NodeBlock) }

func calls() asked { return of(api.NodeCall) }

func statements() asked {
	return of(api.NodeBlock, api.NodeVar, api.NodeDefine, api.NodeAssign, api.NodeIf, api.NodeFor,
		api.NodeSwitch, api.NodeReturn, api.NodeBreak, api.NodeContinue, api.NodeDo)
}

func expressions() asked {
	return of(api.NodeInt, api.NodeFloat, api.NodeString, api.NodeBool, api.NodeName, api.NodeUnary,
		api.NodeBinary, api.NodeCall, api.NodeIndex, api.NodeUpTo, api.NodePart, api.NodeList,
		api.NodeMake, api.NodeDollar)
}

// isPlace looks no deeper than what is right may be: a node could hold itself.
func isPlace(n api.Node) bool {
	within := of(api.NodeIndex, api.NodePart)
	for range api.MaxNest {
		if !within(n) || len(n.Kids) == 0 {
			break
		}
		n = n.Kids[0]
	}
	return of(api.NodeName, api.NodeDollar)(n)
}

// takeKids takes the Kids as the kind has them, from the first on; none may be left.
func (l look) takeKids() {
	switch {
	case statements()(l.Node):
		l.takeOfStatement()
	case expressions()(l.Node):
		l.takeOfExpression()
	default:
		l.takeOfOther()
	}
	must(len(l.Kids) == 0)
}

func (l *look) takeOfOther() {
	switch l.Kind {
	case api.NodeFile:
		l.rest(of(api.NodeStruct, api.NodeFunc))
	case api.NodeStruct, api.NodeParams:
		l.rest(of(api.NodeField))
	case api.NodeField, api.NodeSlice:
		l.next(types())
	case api.NodeFunc:
		l.next(of(api.NodeParams), of(api.NodeResults), blocks())
	case api.NodeResults:
		l.rest(types())
	case api.NodeCase:
		l.times(len(l.Kids)-1, expressions())
		l.next(blocks())
	case api.NodeKey:
		l.next(expressions())
	}
}

func (l *look) takeOfStatement() {
	switch l.Kind {
	case api.NodeBlock:
		l.rest(statements())
	case api.NodeVar:
		l.next(types())
		l.perhaps(expressions())
	case api.NodeDefine:
		l.times(l.Num, of(api.NodeName))
		if l.Num > 1 {
			l.next(calls())
		} else {
			l.next(expressions())
		}
	case api.NodeAssign:
		l.times(l.Num, isPlace)
		if l.Num > 1 && len(l.Kids) == 1 {
			l.next(calls())
		} else {
			l.times(l.Num, expressions())
		}
	case api.NodeIf:
		l.next(expressions(), blocks())
		l.perhaps(of(api.NodeBlock, api.NodeIf))
	case api.NodeFor:
		if len(l.Kids) > 1 {
			l.next(expressions())
		}
		l.next(blocks())
	case api.NodeSwitch:
		l.next(expressions())
		l.rest(of(api.NodeCase))
	case api.NodeReturn:
		l.rest(expressions())
	case api.NodeDo:
		l.next(calls())
	}
}

func (l *look) takeOfExpression() {
	switch l.Kind {
	case api.NodeUnary, api.NodePart:
		l.next(expressions())
	case api.NodeBinary, api.NodeIndex, api.NodeUpTo:
		l.next(expressions(), expressions())
	case api.NodeCall:
		l.rest(expressions())
	case api.NodeList:
		l.next(of(api.NodeSlice))
		l.rest(expressions())
	case api.NodeMake:
		l.rest(of(api.NodeKey))
	}
}

func (l *look) next(questions ...asked) {
	for _, is := range questions {
		must(len(l.Kids) > 0 && is(l.Kids[0]))
		l.Kids = l.Kids[1:]
	}
}

func (l *look) times(n int, is asked) {
	for range n {
		l.next(is)
	}
}

func (l *look) rest(is asked) {
	l.times(len(l.Kids), is)
}

func (l *look) perhaps(is asked) {
	if len(l.Kids) > 0 {
		l.next(is)
	}
}
