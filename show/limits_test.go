package show_test

import (
	"strings"
	"testing"

	"gristmill/api"
	"gristmill/node"
	"gristmill/show"
)

// nested puts a form's first expression, or first block, so often within itself.
func nested(f form, times int) shape {
	s := plain(f)
	for range times {
		outer := plain(f)
		if len(outer.blocks) > 0 {
			outer.blocks[0] = []shape{s}
		} else {
			outer.x[0] = s
		}
		s = outer
	}
	return s
}

// deepest nests a form as deep as it may be, and once more.
func deepest(f form, within func(s shape) api.Node) (fits, not shape) {
	many := 0
	for node.Deep(within(nested(f, many+1))) <= api.MaxNest {
		many++
	}
	return nested(f, many), nested(f, many+1)
}

func TestDeepStatements(t *testing.T) {
	for _, f := range statements() {
		if f.holes(true) == 0 {
			continue
		}
		fits, not := deepest(f, func(s shape) api.Node { return block(s.node(nodes(s.x), blocksOf(s))) })
		isAction(t, fits)
		fails(t, actions, block(nodes([]shape{not})...))
		fits, not = deepest(f, func(s shape) api.Node { return file(function(s.node(nodes(s.x), blocksOf(s)))) })
		isFunction(t, fits)
		fails(t, files, file(function(nodes([]shape{not})...)))
	}
	chain := block()
	shown := "{\n}\n"
	for range 57 {
		chain = branch(name("a"), block(), chain)
		shown = "if a {\n} else " + shown
	}
	isShown(t, actions, block(chain), shown)
	isShown(t, actions, block(branch(name("a"), block(), chain)), "if a {\n} else "+shown)
	fails(t, actions, block(branch(name("b"), block(), branch(name("a"), block(), chain))))
}

func blocksOf(s shape) [][]api.Node {
	var out [][]api.Node
	for _, b := range s.blocks {
		out = append(out, nodes(b))
	}
	return out
}

func TestDeepExpressions(t *testing.T) {
	for _, f := range expressions() {
		if f.holes(false) == 0 {
			continue
		}
		for _, text := range []string{"a = @1", "if @h {\n@s}", "switch @h {\n@t}", "f(@0, @0)"} {
			around := func(x shape) shape {
				s := stated(text)
				s.x[0] = x
				return s
			}
			fits, not := deepest(f, func(x shape) api.Node { return block(nodes([]shape{around(x)})...) })
			isAction(t, around(fits))
			fails(t, actions, block(nodes([]shape{around(not)})...))
		}
	}
	deep := typed("int")
	for range 56 {
		deep = slice(deep)
	}
	isShown(t, files, file(structure("T", field("a", deep))), "package p\n\ntype T struct {\n\ta "+strings.Repeat("[]", 56)+"int\n}\n")
	fails(t, files, file(structure("T", field("a", slice(deep)))))
	isShown(t, actions, block(of(api.NodeVar, "a", slice(deep))), "var a "+strings.Repeat("[]", 57)+"int\n")
	fails(t, actions, block(of(api.NodeVar, "a", slice(slice(deep)))))
}

func times(n int, one api.Node) []api.Node {
	out := make([]api.Node, n)
	for i := range out {
		out[i] = one
	}
	return out
}

// TestGreatTrees has as many nodes as there may be, of texts that are longer than a source, too.
func TestGreatTrees(t *testing.T) {
	const most = api.MaxNodes
	long := strings.Repeat("a", 40)
	for _, g := range []struct {
		face      face
		tree      func(n int) api.Node
		fits      int
		head, one string
		tail      string
	}{
		{actions, func(n int) api.Node { return block(times(n, block())...) }, most - 1, "", "{\n}\n", ""},
		{actions, func(n int) api.Node { return block(times(n, tell())...) }, most - 1, "", "return\n", ""},
		{actions, func(n int) api.Node { return block(times(n, of(api.NodeContinue, long))...) }, most - 1, "", "continue " + long + "\n", ""},
		{actions, func(n int) api.Node { return block(do("f", append(times(n, name("a")), name("b"))...)) }, most - 4, "f(", "a, ", "b)\n"},
		{actions, func(n int) api.Node { return block(tell(append(times(n, quoted("\x00")), name("b"))...)) }, most - 3, "return ", `"\x00", `, "b\n"},
		{actions, func(n int) api.Node {
			return block(loop(block(loop(block(loop(block(times(n, of(api.NodeBreak, ""))...)))))))
		}, most - 7, "for {\n\tfor {\n\t\tfor {\n", "\t\t\tbreak\n", "\t\t}\n\t}\n}\n"},
		{actions, func(n int) api.Node {
			return block(choice(append([]api.Node{name("a")}, times(n, when(block()))...)...))
		}, (most - 3) / 2, "switch a {\n", "default:\n", "}\n"},
		{actions, func(n int) api.Node {
			return block(tell(list(typed("int"), append(times(n, whole("1")), name("b"))...)))
		}, most - 6, "return []int{", "1, ", "b}\n"},
		{files, func(n int) api.Node { return file(times(n, structure("T"))...) }, most - 1, "package p\n", "\ntype T struct {\n}\n", ""},
		{files, func(n int) api.Node { return file(structure("T", times(n, field("a", typed("int")))...)) }, (most - 2) / 2, "package p\n\ntype T struct {\n", "\ta int\n", "}\n"},
		{files, func(n int) api.Node { return file(times(n, function())...) }, (most - 1) / 4, "package p\n", "\nfunc f() {\n}\n", ""},
		{files, func(n int) api.Node { return file(function(times(n, tell(truth(0)))...)) }, (most - 5) / 2, "package p\n\nfunc f() {\n", "\treturn false\n", "}\n"},
	} {
		for _, n := range []int{1, 2, 1000, g.fits} {
			isShown(t, g.face, g.tree(n), g.head+strings.Repeat(g.one, n)+g.tail)
		}
		for _, n := range []int{g.fits + 1, g.fits + 2, 2 * g.fits} {
			isNone(t, g.tree(n))
		}
	}
	text := strings.Repeat("\xff", 1<<20)
	isShown(t, actions, block(do("f", quoted(text))), `f("`+strings.Repeat(`\xff`, 1<<20)+"\")\n")
}

// TestAsLongAsASource tells texts that are just as long as a source may be, and longer by one.
func TestAsLongAsASource(t *testing.T) {
	for _, n := range []int{api.MaxSource - 6, api.MaxSource - 5} {
		s := strings.Repeat("a", n)
		isShown(t, actions, block(do("f", quoted(s))), `f("`+s+"\")\n")
	}
}

// TestTreesThatNeverEnd: R1.
func TestTreesThatNeverEnd(t *testing.T) {
	for _, n := range []api.Node{block(), file(), unary("-", name("a")), call("f"), loop(block()), slice(typed("int")), structure("T"), part(name("a"), "b")} {
		kids := make([]api.Node, 2)
		n.Kids = kids[:1]
		kids[0] = n
		isNone(t, n)
		n.Kids = kids
		kids[1] = n
		for _, tree := range []api.Node{n, block(n), file(n), block(tell(n)), block(of(api.NodeVar, "a", n)), block(assign(n, n)), file(function(n))} {
			isNone(t, tree)
		}
	}
	deep := name("a")
	for range 1 << 20 {
		deep = unary("!", deep)
	}
	isNone(t, block(tell(deep)))
	isNone(t, file(function(tell(deep))))
}

// TestAlike: R4; no call leaves anything to the next one.
func TestAlike(t *testing.T) {
	head := block(branch(making("T"), block(loop(block()))))
	for range 100 {
		for _, n := range []api.Node{{}, head, block(tell(making("T")))} {
			show.File(n)
			show.Action(n)
		}
		isShown(t, actions, head, "if (T{}) {\n\tfor {\n\t}\n}\n")
		isShown(t, actions, block(tell(making("T"))), "return T{}\n")
		isShown(t, files, file(function()), "package p\n\nfunc f() {\n}\n")
	}
}
