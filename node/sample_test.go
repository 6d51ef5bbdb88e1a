package node_test

import (
	"gristmill/api"
	"gristmill/node"
)

const lastKind = api.NodeDollar

func of(kind api.NodeKind, text string, kids ...api.Node) api.Node {
	return api.Node{Kind: kind, Text: text, Kids: kids}
}

func with(kind api.NodeKind, num int, kids ...api.Node) api.Node {
	return api.Node{Kind: kind, Num: num, Kids: kids}
}

func name(s string) api.Node { return of(api.NodeName, s) }

func whole(s string) api.Node { return of(api.NodeInt, s) }

func typed(s string) api.Node { return of(api.NodeType, s) }

func block(kids ...api.Node) api.Node { return of(api.NodeBlock, "", kids...) }

func file(kids ...api.Node) api.Node { return of(api.NodeFile, "main", kids...) }

func function(kids ...api.Node) api.Node {
	return of(api.NodeFunc, "f", of(api.NodeParams, ""), of(api.NodeResults, ""), block(kids...))
}

func tell(kids ...api.Node) api.Node { return of(api.NodeReturn, "", kids...) }

// sample is a small right node of each kind that there is, and one of a kind that there is not.
func sample(kind api.NodeKind) api.Node {
	x, one := name("x"), whole("1")
	switch kind {
	case api.NodeFile:
		return file()
	case api.NodeStruct, api.NodeMake:
		return of(kind, "T")
	case api.NodeField, api.NodeVar:
		return of(kind, "a", typed("int"))
	case api.NodeFunc:
		return function()
	case api.NodeType:
		return typed("int")
	case api.NodeSlice:
		return of(kind, "", typed("int"))
	case api.NodeDefine, api.NodeAssign:
		return with(kind, 1, x, one)
	case api.NodeIf:
		return of(kind, "", x, block())
	case api.NodeFor, api.NodeCase:
		return of(kind, "", block())
	case api.NodeSwitch:
		return of(kind, "", x)
	case api.NodeDo:
		return of(kind, "", of(api.NodeCall, "f"))
	case api.NodeInt:
		return one
	case api.NodeFloat:
		return of(kind, "1.5")
	case api.NodeName:
		return x
	case api.NodeUnary:
		return of(kind, "-", x)
	case api.NodeBinary:
		return of(kind, "+", x, one)
	case api.NodeCall:
		return of(kind, "f")
	case api.NodeIndex, api.NodeUpTo:
		return of(kind, "", x, one)
	case api.NodePart, api.NodeKey:
		return of(kind, "a", x)
	case api.NodeList:
		return of(kind, "", of(api.NodeSlice, "", typed("int")))
	case api.NodeDollar:
		return with(kind, 1)
	}
	return of(kind, "")
}

func isExpression(kind api.NodeKind) bool {
	return api.NodeInt <= kind && kind <= api.NodeMake || kind == api.NodeDollar
}

// within is a whole tree in which a node stands where one of its kind may.
func within(n api.Node) api.Node {
	switch n.Kind {
	case api.NodeFile:
		return n
	case api.NodeStruct, api.NodeFunc:
		return file(n)
	case api.NodeField:
		return file(of(api.NodeStruct, "T", n))
	case api.NodeParams:
		return file(of(api.NodeFunc, "f", n, of(api.NodeResults, ""), block()))
	case api.NodeResults:
		return file(of(api.NodeFunc, "f", of(api.NodeParams, ""), n, block()))
	case api.NodeType, api.NodeSlice:
		return block(of(api.NodeVar, "v", n))
	case api.NodeCase:
		return block(of(api.NodeSwitch, "", name("x"), n))
	case api.NodeKey:
		return block(tell(of(api.NodeMake, "T", n)))
	}
	if isExpression(n.Kind) {
		return block(tell(n))
	}
	return block(n)
}

// richBlock has all statements in it, and all expressions but NodeDollars.
func richBlock() api.Node {
	x, y, i, one := name("x"), name("y"), name("i"), whole("1")
	ints := of(api.NodeSlice, "", typed("int"))
	call := of(api.NodeCall, "g", x, of(api.NodeString, "a\x00\xff"))
	place := of(api.NodePart, "a", of(api.NodeIndex, "", x, i))
	return block(
		of(api.NodeVar, "x", of(api.NodeSlice, "", typed("T"))),
		of(api.NodeVar, "b", typed("bool"), with(api.NodeBool, 1)),
		with(api.NodeDefine, 1, y, of(api.NodeList, "", ints, one, whole("22"))),
		with(api.NodeDefine, 2, i, name("j"), call),
		with(api.NodeAssign, 1, place, of(api.NodeFloat, "0.25")),
		with(api.NodeAssign, 2, i, y, one, of(api.NodeUpTo, "", y, i)),
		with(api.NodeAssign, 2, place, y, call),
		of(api.NodeFor, "L", of(api.NodeBinary, "<", i, one), block(of(api.NodeBreak, "L"), of(api.NodeContinue, ""))),
		of(api.NodeFor, "", block(of(api.NodeBreak, ""), of(api.NodeContinue, "L"))),
		of(api.NodeIf, "", of(api.NodeUnary, "!", name("b")), block(), of(api.NodeIf, "", name("b"), block(of(api.NodeDo, "", call)), block(tell()))),
		of(api.NodeSwitch, "", i, of(api.NodeCase, "", one, whole("2"), block(tell(x, i))), of(api.NodeCase, "", block())),
		block(tell(of(api.NodeMake, "T", of(api.NodeKey, "a", of(api.NodePart, "a", of(api.NodeIndex, "", x, i)))))),
	)
}

func richFile() api.Node {
	field := func(s string) api.Node { return of(api.NodeField, s, typed(s+"s")) }
	return file(
		of(api.NodeStruct, "T", field("a"), field("b")),
		of(api.NodeFunc, "f", of(api.NodeParams, "", field("x"), field("y")), of(api.NodeResults, "", typed("int"), of(api.NodeSlice, "", typed("T"))), richBlock()),
		of(api.NodeStruct, "U"),
		function(tell(name("x"))),
		function(),
	)
}

func richAction() api.Node {
	n := richBlock()
	n.Kids = append(n.Kids, with(api.NodeAssign, 1, with(api.NodeDollar, 0), of(api.NodeBinary, "+", with(api.NodeDollar, 1), with(api.NodeDollar, 99))))
	return n
}

// riches are right trees that have nodes of all kinds.
func riches() []api.Node { return []api.Node{richFile(), richAction()} }

// allOf are a tree's nodes, where they lie.
func allOf(n *api.Node) []*api.Node {
	out := []*api.Node{n}
	for i := range n.Kids {
		out = append(out, allOf(&n.Kids[i])...)
	}
	return out
}

// copied is a tree anew, At's too, with lists that have no more room.
func copied(n api.Node) api.Node {
	if n.Kids == nil {
		return n
	}
	kids := make([]api.Node, len(n.Kids))
	for i, kid := range n.Kids {
		kids[i] = copied(kid)
	}
	n.Kids = kids
	return n
}

// placed is a tree anew, with an At for each node.
func placed(n api.Node, at func(i int) int) api.Node {
	n = copied(n)
	for i, p := range allOf(&n) {
		p.At = at(i)
	}
	return n
}

// nested is x below n NodeUnarys.
func nested(n int, x api.Node) api.Node {
	for range n {
		x = of(api.NodeUnary, "!", x)
	}
	return x
}

// doubled is a tree of 2^n leaves in little memory: its lists are the same ones.
func doubled(n int, x api.Node) api.Node {
	for range n {
		x = of(api.NodeBinary, "+", x, x)
	}
	return x
}

// sum is a tree of 2n - 1 nodes.
func sum(n int) api.Node {
	if n == 1 {
		return name("x")
	}
	return of(api.NodeBinary, "+", sum(n/2), sum(n-n/2))
}

func right(n api.Node) bool { return node.Right(n) }
