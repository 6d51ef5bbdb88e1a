package check_test

import (
	"strconv"
	"testing"

	"gristmill/api"
	"gristmill/check"
	"gristmill/node"
	"gristmill/parse"
)

func isShapeless(t *testing.T, n api.Node) {
	t.Helper()
	if f := check.File(n); f != (api.Fault{Err: api.ErrShape}) {
		t.Errorf("%s: %v", spell(n), f)
	}
	isUnsigned(t, n, n.Text)
	isUnsigned(t, n, "f")
}

// P7.1.
func TestTreesOfOtherKinds(t *testing.T) {
	t.Parallel()
	for kind := range 256 {
		for _, text := range []string{"", "p", "main", "-", "1", "f"} {
			n := api.Node{Kind: api.NodeKind(kind), Text: text, At: 5}
			if !node.Right(n) || n.Kind != api.NodeFile {
				isShapeless(t, n)
			}
			if in := (api.Node{Kind: api.NodeFile, Text: text, At: 5, Kids: []api.Node{n}}); !node.Right(in) {
				isShapeless(t, in)
			}
		}
	}
	action, _ := parse.Action("x := 1; y = x")
	isShapeless(t, action)
	isShapeless(t, file(action))
	for _, s := range []string{"$$ = 1", "n := $1; n = n"} {
		dollars, _ := parse.Action(s)
		isShapeless(t, dollars)
		isShapeless(t, file(of(api.NodeFunc, "f", of(api.NodeParams, ""), of(api.NodeResults, ""), dollars)))
	}
}

// TestSpoiltFiles has each node of a right file spoilt in each way.
func TestSpoiltFiles(t *testing.T) {
	t.Parallel()
	n := read(t, given+"func f(a []int) int { n := -1; b := true; c: for n < 1 { switch n { case 1: break c\n default: } }; a[0], n = len(a), 1; if b { return a[:1][0] + pair{a: 1}.a } else { panic(\"a\") } }")
	if f := check.File(n); f != (api.Fault{}) {
		t.Fatal(f)
	}
	for i, p := range nodes(&n) {
		kept := *p
		for how, spoilt := range []api.Node{
			{Kind: kept.Kind + 40, Text: kept.Text, Num: kept.Num, At: kept.At, Kids: kept.Kids},
			{Kind: kept.Kind, Text: "a b", Num: kept.Num, At: kept.At, Kids: kept.Kids},
			{Kind: kept.Kind, Text: kept.Text, Num: kept.Num - 100, At: kept.At, Kids: kept.Kids},
			{Kind: kept.Kind, Text: kept.Text, Num: kept.Num, At: -1, Kids: kept.Kids},
			{Kind: kept.Kind, Text: kept.Text, Num: kept.Num, At: kept.At, Kids: append([]api.Node{{}}, kept.Kids...)},
		} {
			*p = spoilt
			if how == 1 && kept.Kind == api.NodeString {
				continue
			}
			if f := check.File(n); f != (api.Fault{Err: api.ErrShape}) {
				t.Errorf("node %d, %s, spoilt %d: %v", i, spell(kept), how, f)
			}
		}
		*p = kept
	}
}

// nested is an expression in so many NodeUnarys.
func nested(many int, x api.Node) api.Node {
	for range many {
		x = of(api.NodeUnary, "!", x)
	}
	return x
}

// function is one of a parameter b of bool, and no results.
func function(name string, kids ...api.Node) api.Node {
	return of(api.NodeFunc, name, of(api.NodeParams, "", of(api.NodeField, "b", typed("bool"))), of(api.NodeResults, ""), of(api.NodeBlock, "", kids...))
}

// set is b = x.
func set(x api.Node) api.Node {
	return api.Node{Kind: api.NodeAssign, Num: 1, Kids: []api.Node{of(api.NodeName, "b"), x}}
}

// P7.1, R1.
func TestDepth(t *testing.T) {
	t.Parallel()
	b, truth := of(api.NodeName, "b"), of(api.NodeBool, "")
	for _, x := range []api.Node{b, truth} {
		passesTree(t, file(function("f", set(nested(55, x)))))
		isShapeless(t, file(function("f", set(nested(56, x)))))
	}
	blocks := of(api.NodeBlock, "")
	for range 56 {
		blocks = of(api.NodeBlock, "", blocks)
	}
	passesTree(t, file(function("f", blocks)))
	isShapeless(t, file(function("f", of(api.NodeBlock, "", blocks))))
	deep := typed("int")
	for range 57 {
		deep = sliceNode(deep)
	}
	passesTree(t, file(of(api.NodeStruct, "s", of(api.NodeField, "a", deep.Kids[0]))))
	isShapeless(t, file(of(api.NodeStruct, "s", of(api.NodeField, "a", sliceNode(deep)))))
}

// many is how many nodes a tree has.
func many(n api.Node) int { return len(nodes(&n)) }

func TestAsManyAsMayBe(t *testing.T) {
	t.Parallel()
	const most = 1 << 15
	b := of(api.NodeName, "b")
	var sets []api.Node
	for range (most - 8) / 3 {
		sets = append(sets, set(b))
	}
	n := file(function("f", sets...))
	for many(n) < most {
		n.Kids[0].Kids[2].Kids = append(n.Kids[0].Kids[2].Kids, of(api.NodeBlock, ""))
	}
	if f := check.File(n); f != (api.Fault{}) {
		t.Error(f)
	}
	n.Kids[0].Kids[2].Kids = append(n.Kids[0].Kids[2].Kids, of(api.NodeBlock, ""))
	isShapeless(t, n)
}

// TestManyOfAll: R1; files of as much as may be of one thing.
func TestManyOfAll(t *testing.T) {
	t.Parallel()
	number := func(s string, i int) string { return s + strconv.Itoa(i) }
	var fields, keys, vars, functions, structs, labels []api.Node
	for i := range 4000 {
		fields = append(fields, of(api.NodeField, number("a", i), typed("bool")))
		keys = append(keys, of(api.NodeKey, number("a", 3999-i), of(api.NodeName, "b")))
		vars = append(vars, api.Node{Kind: api.NodeDefine, Num: 1, Kids: []api.Node{of(api.NodeName, number("v", i)), of(api.NodeName, "b")}}, set(of(api.NodeName, number("v", i))))
		functions = append(functions, of(api.NodeFunc, number("f", i), of(api.NodeParams, ""), of(api.NodeResults, ""), of(api.NodeBlock, "", of(api.NodeDo, "", of(api.NodeCall, number("f", 3999-i))))))
		structs = append(structs, of(api.NodeStruct, number("s", i), of(api.NodeField, "a", sliceNode(typed(number("s", 3999-i))))))
		labels = append(labels, of(api.NodeFor, number("l", i), of(api.NodeBlock, "", of(api.NodeBreak, number("l", i)))))
	}
	wide := of(api.NodeStruct, "wide", fields...)
	makes := api.Node{Kind: api.NodeAssign, Num: 1, Kids: []api.Node{of(api.NodeName, "b"), of(api.NodePart, "a7", of(api.NodeMake, "wide", keys...))}}
	for _, kids := range [][]api.Node{{wide, function("f", makes)}, {function("f", vars[:5600]...)}, functions, structs, {function("f", labels...)}} {
		n := file(kids...)
		if f := check.File(n); f != (api.Fault{}) {
			t.Errorf("%d: %v", many(n), f)
		}
	}
}
