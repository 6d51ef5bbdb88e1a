package check_test

import (
	"os"
	"runtime/debug"
	"strconv"
	"strings"
	"testing"

	"gristmill/api"
	"gristmill/check"
	"gristmill/node"
	"gristmill/parse"
)

// TestMain lets more memory lie about: trees by the thousand are made anew and left.
func TestMain(m *testing.M) {
	debug.SetGCPercent(800)
	os.Exit(m.Run())
}

var kinds = strings.Fields("None File Struct Field Func Params Results Type Slice Block Var Define Assign If For Switch Case Return Break Continue Do Int Float String Bool Name Unary Binary Call Index UpTo Part List Make Key Dollar")

// spell is a node's kind, and its text.
func spell(n api.Node) string {
	if int(n.Kind) >= len(kinds) {
		return strconv.Itoa(int(n.Kind))
	}
	if n.Text == "" {
		return kinds[n.Kind]
	}
	return kinds[n.Kind] + ":" + n.Text
}

func short(s string) string {
	s = strings.Replace(s, given, "", 1)
	if len(s) > 500 {
		return strconv.Quote(s[:500]) + ".."
	}
	return strconv.Quote(s)
}

// nodes are a tree's nodes, each ahead of its Kids.
func nodes(n *api.Node) []*api.Node {
	out := []*api.Node{n}
	for i := range n.Kids {
		out = append(out, nodes(&n.Kids[i])...)
	}
	return out
}

// roomy is a tree anew, its nodes at places of their own, with room behind its lists in which something lies.
func roomy(n api.Node, at func(i int) int) api.Node {
	i := 0
	var copied func(n api.Node) api.Node
	copied = func(n api.Node) api.Node {
		n.At = at(i)
		i++
		kids := make([]api.Node, len(n.Kids)+1)
		for k := range n.Kids {
			kids[k] = copied(n.Kids[k])
		}
		kids[len(n.Kids)] = api.Node{Kind: api.NodeName, Text: "room", At: 7}
		n.Kids = kids[:len(n.Kids)]
		return n
	}
	return copied(n)
}

// alike holds trees of one shape against each other, with the room behind their lists.
func alike(a, b api.Node) bool {
	if a.Kind != b.Kind || a.Text != b.Text || a.Num != b.Num || a.At != b.At || len(a.Kids) != len(b.Kids) || cap(a.Kids) != cap(b.Kids) {
		return false
	}
	as, bs := a.Kids[:cap(a.Kids)], b.Kids[:cap(b.Kids)]
	for i := range as {
		if !alike(as[i], bs[i]) {
			return false
		}
	}
	return true
}

// asked is what File tells of a tree, and the node that it tells it of, if of one. The places must make no difference, and the tree must stay as it was.
func asked(t *testing.T, n api.Node) (api.Fault, *api.Node) {
	t.Helper()
	told := check.File(n)
	all := nodes(&n)
	const far = 1 << 40
	places := []func(i int) int{
		func(i int) int { return i + 1 },
		func(i int) int { return far - i },
		func(i int) int { return 0 },
	}
	found := -1
	for k, at := range places {
		tree := roomy(n, at)
		f := check.File(tree)
		if k == 0 && !alike(tree, roomy(n, at)) {
			t.Fatalf("%s: the tree was changed", spell(n))
		}
		which := map[int]int{0: f.At - 1, 1: far - f.At, 2: found}[k]
		if f.At == 0 {
			which = -1
		}
		if f.Err != told.Err || k == 1 && which != found || k == 2 && f.At != 0 {
			t.Fatalf("with other places %v, not %v", f, told)
		}
		if k == 0 {
			found = which
		}
	}
	if found < 0 {
		return told, nil
	}
	if all[found].At != told.At {
		t.Fatalf("the place of a %s: %v", spell(*all[found]), told)
	}
	return told, all[found]
}

func read(t *testing.T, s string) api.Node {
	t.Helper()
	n, f := parse.File(s)
	if f != (api.Fault{}) {
		t.Fatalf("%s: %v", short(s), f)
	}
	return n
}

// fails asks for a fault at the node of that spelling that begins where a ^ stands, which is taken out.
func fails(t *testing.T, marked string, e api.Errno, at string) {
	t.Helper()
	s := strings.Replace(marked, "^", "", 1)
	f, where := asked(t, read(t, s))
	got := "none"
	if where != nil {
		got = spell(*where)
	}
	if f != (api.Fault{Err: e, At: strings.Index(marked, "^")}) || got != at {
		t.Errorf("%s: %v of %s, not %d of %s", short(marked), f, got, e, at)
	}
}

// passes asks for no fault; and for Go to take what is shown (P7.6).
func passes(t *testing.T, s string) {
	t.Helper()
	n := read(t, s)
	passesTree(t, n)
}

func passesTree(t *testing.T, n api.Node) {
	t.Helper()
	if f, _ := asked(t, n); f != (api.Fault{}) {
		t.Errorf("%s: %v", short(shown(t, n)), f)
		return
	}
	if err := byGo(shown(t, n)); err != nil {
		t.Errorf("%s: Go says %v", short(shown(t, n)), err)
	}
}

// given are structs and functions that bodies may call.
const given = `package p
type pair struct { a int; b string }
type tree struct { kids []tree; of pair; float64 float64 }
func two() (int, string) { return 1, "a" }
func three() (int, string, bool) { return 1, "a", true }
func pairs() (pair, []pair) { return pair{}, []pair{} }
func one() int { return 1 }
func word() string { return "a" }
func none() { }
func takes(b bool) { }
func gives(n int, s string, b bool) []string { return []string{s} }
`

// has is a function's beginning, whose parameters are of all kinds.
const has = given + "func f(n int, s string, b bool, x float64, l []int, w []string, p pair, q tree, ts []tree, ls [][]int) { "

// isIn asks for no fault of statements.
func isIn(t *testing.T, statements string) {
	t.Helper()
	passes(t, has+statements+"\n}")
}

// failsIn asks for a fault in statements of a body, whatever stands ahead of them or behind.
func failsIn(t *testing.T, marked string, e api.Errno, at string) {
	t.Helper()
	fails(t, has+marked+"\n}", e, at)
	behind := "\nnone()\nn = true"
	if e == api.ErrUnused {
		behind = "" // it is told at the block's end
	}
	fails(t, has+"n = n + 1; { var z int = n; n = z }; "+marked+behind+"\n}; func other() { undeclared() }", e, at)
}

// isOf asks for an expression of a type, and of none of some others.
func isOf(t *testing.T, x, of string) {
	t.Helper()
	for _, other := range []string{"int", "bool", "string", "float64", "pair", "tree", "[]int", "[]string", "[]pair", "[]tree", "[][]int", "[][]tree"} {
		if s := "var v " + other + " = "; other == of {
			isIn(t, s+x+"; v = v")
		} else {
			fails(t, has+s+"^"+x+"; v = v }", api.ErrType, atFirst(t, x))
		}
	}
	isIn(t, "v := "+x+"; v = v; v = "+x)
	isIn(t, "{ l := "+x+"; l = l }")
}

// atFirst is the spelling of an expression's node.
func atFirst(t *testing.T, x string) string {
	t.Helper()
	n, f := parse.Action("a = " + x)
	if f != (api.Fault{}) || !node.Right(n) {
		t.Fatalf("%s: %v", short(x), f)
	}
	return spell(n.Kids[0].Kids[1])
}

// failsAsX asks for a fault in an expression, wherever it stands, whatever stands behind it.
func failsAsX(t *testing.T, marked string, e api.Errno, at string) {
	t.Helper()
	for _, around := range []string{
		"v := @; v = true", "n, s = @, n", "l[@] = s", "w = gives(@, n, s)", "n = len(@) + s", "l = []int{1, @, s}", "q.of = pair{a: @, c: n}", "b = !(n == l[:@][s])",
		"for b { switch n { case @, s: } }", "for @ { n = s }", "switch @ { case undeclared: }", "if b { } else if @ { n = s } else { n = s }",
	} {
		if isHead := strings.Contains(around, " @ {"); isHead && strings.Contains(marked, "{") {
			continue
		}
		fails(t, has+strings.Replace(around, "@", marked, 1)+" }", e, at)
	}
}
