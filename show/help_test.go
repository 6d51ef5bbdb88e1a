package show_test

import (
	"strconv"
	"strings"
	"testing"

	"gristmill/api"
	"gristmill/node"
	"gristmill/parse"
	"gristmill/show"
)

// face is a call of the package, and that of parse which reads what it shows.
type face struct {
	show func(api.Node) (string, api.Errno)
	read func(string) (api.Node, api.Fault)
}

var (
	files   = face{show.File, parse.File}
	actions = face{show.Action, parse.Action}
)

func of(kind api.NodeKind, text string, kids ...api.Node) api.Node {
	return api.Node{Kind: kind, Text: text, Kids: kids}
}

func with(kind api.NodeKind, num int, kids ...api.Node) api.Node {
	return api.Node{Kind: kind, Num: num, Kids: kids}
}

func name(s string) api.Node              { return of(api.NodeName, s) }
func whole(s string) api.Node             { return of(api.NodeInt, s) }
func pointed(s string) api.Node           { return of(api.NodeFloat, s) }
func quoted(s string) api.Node            { return of(api.NodeString, s) }
func typed(s string) api.Node             { return of(api.NodeType, s) }
func slice(t api.Node) api.Node           { return of(api.NodeSlice, "", t) }
func field(s string, t api.Node) api.Node { return of(api.NodeField, s, t) }
func block(kids ...api.Node) api.Node     { return of(api.NodeBlock, "", kids...) }
func tell(kids ...api.Node) api.Node      { return of(api.NodeReturn, "", kids...) }
func call(f string, kids ...api.Node) api.Node {
	return of(api.NodeCall, f, kids...)
}
func do(f string, kids ...api.Node) api.Node { return of(api.NodeDo, "", call(f, kids...)) }
func unary(sign string, x api.Node) api.Node { return of(api.NodeUnary, sign, x) }
func binary(x api.Node, sign string, y api.Node) api.Node {
	return of(api.NodeBinary, sign, x, y)
}
func index(x, y api.Node) api.Node       { return of(api.NodeIndex, "", x, y) }
func upTo(x, y api.Node) api.Node        { return of(api.NodeUpTo, "", x, y) }
func part(x api.Node, s string) api.Node { return of(api.NodePart, s, x) }
func list(t api.Node, kids ...api.Node) api.Node {
	return of(api.NodeList, "", append([]api.Node{slice(t)}, kids...)...)
}
func key(s string, x api.Node) api.Node          { return of(api.NodeKey, s, x) }
func making(s string, kids ...api.Node) api.Node { return of(api.NodeMake, s, kids...) }
func dollar(n int) api.Node                      { return with(api.NodeDollar, n) }
func truth(n int) api.Node                       { return with(api.NodeBool, n) }
func assign(place, x api.Node) api.Node          { return with(api.NodeAssign, 1, place, x) }
func define(s string, x api.Node) api.Node       { return with(api.NodeDefine, 1, name(s), x) }
func branch(kids ...api.Node) api.Node           { return of(api.NodeIf, "", kids...) }
func loop(kids ...api.Node) api.Node             { return of(api.NodeFor, "", kids...) }
func choice(kids ...api.Node) api.Node           { return of(api.NodeSwitch, "", kids...) }
func when(kids ...api.Node) api.Node             { return of(api.NodeCase, "", kids...) }

func file(kids ...api.Node) api.Node { return of(api.NodeFile, "p", kids...) }

func function(kids ...api.Node) api.Node {
	return of(api.NodeFunc, "f", of(api.NodeParams, ""), of(api.NodeResults, ""), block(kids...))
}

func short(s string) string {
	if len(s) > 600 {
		return strconv.Quote(s[:600]) + ".."
	}
	return strconv.Quote(s)
}

// isShown asks for a tree's text, wherever the tree stands and with any room behind its lists; that the tree stays as it was; and that the text is parsed as the tree, unless it is too long for a source.
func isShown(t *testing.T, f face, n api.Node, want string) {
	t.Helper()
	for _, step := range []int{0, 1, -7} {
		tree, kept := roomy(n, step), roomy(n, step)
		for range 2 {
			if got, e := f.show(tree); e != api.OK || got != want {
				t.Errorf("%v %s, not %s", e, short(got), short(want))
				return
			}
		}
		if !alike(tree, kept) {
			t.Errorf("%s: the tree was changed", short(want))
		}
	}
	read, fault := f.read(want)
	if len(want) > api.MaxSource {
		if fault.Err != api.ErrLong {
			t.Errorf("%s: %v", short(want), fault)
		}
		return
	}
	if fault != (api.Fault{}) || !node.Same(read, n) {
		t.Errorf("%s: parsed as another tree: %v", short(want), fault)
	}
	if again, e := f.show(read); e != api.OK || again != want {
		t.Errorf("%s: shown again as %v %s", short(want), e, short(again))
	}
}

// roomy is a copy of a tree whose places go so far on with each node, with room behind its lists in which something lies.
func roomy(n api.Node, step int) api.Node {
	at := step & 1 << 40
	var copied func(n api.Node) api.Node
	copied = func(n api.Node) api.Node {
		n.At = at
		at += step
		kids := make([]api.Node, len(n.Kids)+2)
		for i := range n.Kids {
			kids[i] = copied(n.Kids[i])
		}
		kids[len(n.Kids)] = of(api.NodeName, "room", name("room"))
		n.Kids = kids[:len(n.Kids)]
		return n
	}
	return copied(n)
}

// alike holds trees of one shape against each other, places and the room behind lists too.
func alike(a, b api.Node) bool {
	if a.Kind != b.Kind || a.Text != b.Text || a.Num != b.Num || a.At != b.At || len(a.Kids) != len(b.Kids) || cap(a.Kids) != cap(b.Kids) {
		return false
	}
	as, bs := a.Kids[:cap(a.Kids)], b.Kids[:cap(b.Kids)]
	for i := range as {
		if !alike(as[i], bs[i]) {
			return false
		}
	}
	return true
}

// isStatement asks for a statement's text, alone in an action, and between others in a function, further in.
func isStatement(t *testing.T, n api.Node, want string) {
	t.Helper()
	isShown(t, actions, block(n), want)
	if !strings.Contains(want, "$") {
		in := strings.ReplaceAll("\n"+want[:len(want)-1], "\n", "\n\t")
		isShown(t, files, file(function(do("g"), n, do("h"))), "package p\n\nfunc f() {\n\tg()"+in+"\n\th()\n}\n")
	}
}

// isExpression asks for an expression's text where any may stand.
func isExpression(t *testing.T, n api.Node, want string) {
	t.Helper()
	isStatement(t, define("x", n), "x := "+want+"\n")
}

// isHead asks for an expression's text in each head.
func isHead(t *testing.T, n api.Node, want string) {
	t.Helper()
	isStatement(t, branch(n, block()), "if "+want+" {\n}\n")
	isStatement(t, branch(name("a"), block(), branch(n, block(), block())), "if a {\n} else if "+want+" {\n} else {\n}\n")
	isStatement(t, loop(n, block()), "for "+want+" {\n}\n")
	isStatement(t, of(api.NodeFor, "l", n, block()), "l: for "+want+" {\n}\n")
	isStatement(t, choice(n), "switch "+want+" {\n}\n")
	isStatement(t, choice(n, when(block())), "switch "+want+" {\ndefault:\n}\n")
}

// isNone asks both calls for ErrShape, and nothing else.
func isNone(t *testing.T, n api.Node) {
	t.Helper()
	fails(t, files, n)
	fails(t, actions, n)
}

func fails(t *testing.T, f face, n api.Node) {
	t.Helper()
	if s, e := f.show(n); s != "" || e != api.ErrShape {
		t.Errorf("kind %d: %v %s", n.Kind, e, short(s))
	}
}
