package show_test

import (
	"strings"
	"testing"

	"gristmill/api"
)

// ErrShape: P5.1, P5.4.
func TestTreesOfTheOtherKind(t *testing.T) {
	for _, n := range []api.Node{file(), file(function()), file(of(api.NodeStruct, "t"))} {
		fails(t, actions, n)
	}
	for _, n := range []api.Node{block(), block(block()), block(do("f")), block(assign(dollar(0), dollar(1)))} {
		fails(t, files, n)
	}
}

func TestNodesThatAreNoTree(t *testing.T) {
	isNone(t, api.Node{})
	a := name("a")
	for _, n := range []api.Node{
		of(api.NodeStruct, "t"), field("a", typed("int")), function(), of(api.NodeParams, ""), of(api.NodeResults, ""), typed("int"), slice(typed("int")),
		of(api.NodeVar, "a", typed("int")), define("a", a), assign(a, a), branch(a, block()), loop(block()), choice(a), when(block()), tell(), of(api.NodeBreak, ""), of(api.NodeContinue, ""), do("f"),
		whole("1"), pointed("1.5"), quoted("a"), truth(1), a, unary("-", a), binary(a, "+", a), call("f"), index(a, a), upTo(a, a), part(a, "b"), list(typed("int")), making("t"), key("a", a), dollar(0),
	} {
		isNone(t, n)
		if n.Kind != api.NodeStruct && n.Kind != api.NodeFunc {
			isNone(t, file(n))
		}
	}
	for kind := api.NodeDollar + 1; kind != 0; kind++ {
		isNone(t, api.Node{Kind: kind})
		isNone(t, block(api.Node{Kind: kind}))
	}
}

func TestTreesThatAreNotRight(t *testing.T) {
	a, turned := name("a"), name("a")
	turned.At = -1
	for _, n := range []api.Node{
		{Kind: api.NodeFile}, of(api.NodeFile, "func"), of(api.NodeFile, "_"), of(api.NodeFile, strings.Repeat("a", 41)), {Kind: api.NodeFile, Text: "p", Num: 1}, {Kind: api.NodeFile, Text: "p", At: -1},
		of(api.NodeBlock, "a"), {Kind: api.NodeBlock, Num: 1}, {Kind: api.NodeBlock, At: -1},
		file(block()), file(do("f")), file(api.Node{}), file(of(api.NodeFile, "p")), file(of(api.NodeFunc, "f")), file(function(assign(a, dollar(1)))), file(function(define("a", unary("-", dollar(0))))),
		file(of(api.NodeStruct, "")), file(of(api.NodeStruct, "t", typed("int"))), file(of(api.NodeStruct, "t", of(api.NodeField, "a"))), file(of(api.NodeStruct, "t", field("a", a))),
		file(of(api.NodeFunc, "f", of(api.NodeParams, ""), of(api.NodeResults, ""))), file(of(api.NodeFunc, "f", of(api.NodeResults, ""), of(api.NodeParams, ""), block())), file(of(api.NodeFunc, "f", of(api.NodeParams, "", a), of(api.NodeResults, ""), block())),
		block(a), block(whole("1")), block(call("f")), block(field("a", typed("int"))), block(file()), block(api.Node{}), block(typed("int")), block(when(block())),
		block(of(api.NodeVar, "a")), block(of(api.NodeVar, "", typed("int"))), block(of(api.NodeVar, "a", a)), block(of(api.NodeVar, "a", typed("int"), a, a)), block(of(api.NodeVar, "a", typed("int"), typed("int"))),
		block(with(api.NodeDefine, 0, a)), block(with(api.NodeDefine, 1, a)), block(with(api.NodeDefine, 2, a, a, a)), block(with(api.NodeDefine, 1, dollar(0), a)), block(with(api.NodeDefine, -1, a, a)), block(with(api.NodeDefine, 1<<62, a, a)),
		block(with(api.NodeAssign, 0, a)), block(with(api.NodeAssign, 1, a)), block(with(api.NodeAssign, 2, a, a, a)), block(with(api.NodeAssign, 1, whole("1"), a)), block(assign(call("f"), a)), block(assign(upTo(a, a), a)), block(assign(unary("-", a), a)),
		block(branch()), block(branch(a)), block(branch(a, a)), block(branch(block(), block())), block(branch(a, block(), a)), block(branch(a, block(), loop(block()))), block(branch(a, block(), block(), block())),
		block(loop()), block(loop(a)), block(loop(a, a, block())), block(of(api.NodeFor, "1", block())), block(of(api.NodeFor, "for", block())), block(choice()), block(choice(block())), block(choice(a, block())), block(choice(a, when())), block(choice(a, when(block(), a))),
		block(tell(block())), block(of(api.NodeReturn, "a")), block(of(api.NodeBreak, "break")), block(of(api.NodeBreak, "", a)), block(of(api.NodeContinue, "1")), block(of(api.NodeDo, "")), block(of(api.NodeDo, "", a)), block(of(api.NodeDo, "", call("f"), call("f"))),
	} {
		isNone(t, n)
	}
	for _, x := range []api.Node{
		{}, turned, block(), typed("int"), key("a", a), of(api.NodeName, ""), name("if"), name("a b"), name("_"), of(api.NodeName, "a", a), with(api.NodeName, 1),
		whole(""), whole("007"), whole("-1"), whole(strings.Repeat("1", 41)), pointed("1"), pointed("1."), pointed(".5"), pointed("01.5"), pointed("1e3"), {Kind: api.NodeString, Num: 1}, of(api.NodeString, "a", a),
		truth(2), truth(-1), of(api.NodeBool, "true"), unary("+", a), unary("", a), of(api.NodeUnary, "-"), of(api.NodeUnary, "-", a, a), binary(a, "=", a), binary(a, "!", a), binary(a, "", a), of(api.NodeBinary, "+", a), of(api.NodeBinary, "+", a, a, a),
		call(""), call("if"), call("f", block()), of(api.NodeIndex, "", a), of(api.NodeIndex, "a", a, a), of(api.NodeUpTo, "", a), of(api.NodeUpTo, "", a, a, a), part(a, ""), part(a, "1"), of(api.NodePart, "a"),
		of(api.NodeList, ""), of(api.NodeList, "", typed("int")), of(api.NodeList, "", slice(a)), list(typed("int"), typed("int")), making(""), making("t", a), making("t", key("", a)), making("t", of(api.NodeKey, "a")), making("t", key("a", block())),
		dollar(100), dollar(-1), of(api.NodeDollar, "1"), of(api.NodeDollar, "", a),
	} {
		for _, s := range []api.Node{define("b", x), tell(a, x), branch(x, block()), do("f", x), assign(index(a, x), a), of(api.NodeVar, "b", typed("int"), x)} {
			isNone(t, block(s))
			isNone(t, file(function(s)))
		}
	}
}
