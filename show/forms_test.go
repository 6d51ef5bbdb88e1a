package show_test

import (
	"strings"

	"gristmill/api"
)

// form is a node as the document shows it. In the text an @ and a byte stand for what is put in: a digit for an expression that is to bind so strongly, - for one behind a minus, . for one ahead of a point, h for a head's, 0 for one within brackets; s for statements, t for the bytes 9 ahead of a line.
type form struct {
	text  string
	binds int // 0 of statements
	node  func(x []api.Node, blocks [][]api.Node) api.Node
}

// holes tells the bytes behind the @s, but of t.
func (f form) holes(statements bool) int {
	n := 0
	for _, s := range strings.Split(f.text, "@")[1:] {
		if s[0] != 't' && (s[0] == 's') == statements {
			n++
		}
	}
	return n
}

// shape is a form with what is put in.
type shape struct {
	form
	x      []shape
	blocks [][]shape
}

func nodes(shapes []shape) []api.Node {
	var out []api.Node
	for _, s := range shapes {
		var blocks [][]api.Node
		for _, b := range s.blocks {
			blocks = append(blocks, nodes(b))
		}
		out = append(out, s.node(nodes(s.x), blocks))
	}
	return out
}

func (s shape) shown(head bool, tabs string) string {
	x, blocks := s.x, s.blocks
	pieces := strings.Split(s.text, "@")
	out := pieces[0]
	for _, piece := range pieces[1:] {
		switch piece[0] {
		case 't':
			out += tabs
		case 's':
			out += shownAll(blocks[0], tabs+"\t") + tabs
			blocks = blocks[1:]
		default:
			out += x[0].put(piece[0], head)
			x = x[1:]
		}
		out += piece[1:]
	}
	return out
}

func shownAll(statements []shape, tabs string) string {
	var out strings.Builder
	for _, s := range statements {
		out.WriteString(tabs + s.shown(false, tabs) + "\n")
	}
	return out.String()
}

func (s shape) put(hole byte, head bool) string {
	least, apart := int(hole-'0'), false
	switch hole {
	case '0':
		head = false
	case 'h':
		head, least = true, 1
	case '-':
		least, apart = 6, s.text[0] == '-'
	case '.':
		least, apart = 7, s.text[0] >= '0' && s.text[0] <= '9' && len(s.x) == 0
	}
	if apart || s.binds < least || head && strings.HasPrefix(s.text, "T{") {
		return "(" + s.shown(false, "") + ")"
	}
	return s.shown(head, "")
}

func leaf(shown string, n api.Node) form {
	return form{shown, 7, func([]api.Node, [][]api.Node) api.Node { return n }}
}

// some is a form of which Kids are some expressions alone.
func some(text string, binds int, n api.Node) form {
	return form{text, binds, func(x []api.Node, _ [][]api.Node) api.Node {
		n := n
		n.Kids = append(append([]api.Node{}, n.Kids...), x...)
		return n
	}}
}

// expressions begin with those that nothing is put in.
func expressions() []form {
	out := []form{
		leaf("a", name("a")), leaf("0", whole("0")), leaf("12.50", pointed("12.50")), leaf(`"{\n\x00"`, quoted("{\n\x00")), leaf("true", truth(1)), leaf("false", truth(0)),
		leaf("f()", call("f")), leaf("[]int{}", list(typed("int"))), leaf("[][]T{}", list(slice(typed("T")))), leaf("T{}", making("T")),
		some("f(@0)", 7, call("f")), some("g(@0, @0, @0)", 7, call("g")), some("@7[@0]", 7, api.Node{Kind: api.NodeIndex}), some("@7[:@0]", 7, api.Node{Kind: api.NodeUpTo}), some("@..b", 7, of(api.NodePart, "b")),
		some("[]int{@0}", 7, list(typed("int"))), some("[][]T{@0, @0}", 7, list(slice(typed("T")))), some("-@-", 6, of(api.NodeUnary, "-")), some("!@6", 6, of(api.NodeUnary, "!")),
		{"T{a: @0}", 7, func(x []api.Node, _ [][]api.Node) api.Node { return making("T", key("a", x[0])) }},
		{"T{a: @0, b: @0}", 7, func(x []api.Node, _ [][]api.Node) api.Node { return making("T", key("a", x[0]), key("b", x[1])) }},
	}
	for _, s := range signs {
		left, right := string(rune('0'+s.binds)), string(rune('1'+s.binds))
		out = append(out, some("@"+left+" "+s.text+" @"+right, s.binds, of(api.NodeBinary, s.text)))
	}
	return out
}

func dollars() []form {
	return []form{leaf("$$", dollar(0)), leaf("$7", dollar(7)), leaf("$42", dollar(42))}
}

// statements begin with those that nothing is put in.
func statements() []form {
	a, b := name("a"), name("b")
	return []form{
		some("var a []int", 0, of(api.NodeVar, "a", slice(typed("int")))), some("return", 0, tell()), some("break", 0, of(api.NodeBreak, "")), some("break l", 0, of(api.NodeBreak, "l")),
		some("continue", 0, of(api.NodeContinue, "")), some("continue m", 0, of(api.NodeContinue, "m")), some("f()", 0, do("f")),
		some("var a T = @1", 0, of(api.NodeVar, "a", typed("T"))), some("a := @1", 0, with(api.NodeDefine, 1, a)), some("a = @1", 0, with(api.NodeAssign, 1, a)), some("a, b = @1, @1", 0, with(api.NodeAssign, 2, a, b)),
		some("return @1", 0, tell()), some("return @1, @1, @1", 0, tell()),
		{"f(@0, @0)", 0, func(x []api.Node, _ [][]api.Node) api.Node { return do("f", x...) }},
		{"a, b := f(@0)", 0, func(x []api.Node, _ [][]api.Node) api.Node { return with(api.NodeDefine, 2, a, b, call("f", x...)) }},
		{"a.b[@0], b = f(@0)", 0, func(x []api.Node, _ [][]api.Node) api.Node {
			return with(api.NodeAssign, 2, index(part(a, "b"), x[0]), b, call("f", x[1]))
		}},
		{"{\n@s}", 0, func(_ []api.Node, s [][]api.Node) api.Node { return block(s[0]...) }},
		{"if @h {\n@s}", 0, func(x []api.Node, s [][]api.Node) api.Node { return branch(x[0], block(s[0]...)) }},
		{"if @h {\n@s} else {\n@s}", 0, func(x []api.Node, s [][]api.Node) api.Node {
			return branch(x[0], block(s[0]...), block(s[1]...))
		}},
		{"if @h {\n@s} else if @h {\n@s} else {\n@s}", 0, func(x []api.Node, s [][]api.Node) api.Node {
			return branch(x[0], block(s[0]...), branch(x[1], block(s[1]...), block(s[2]...)))
		}},
		{"for {\n@s}", 0, func(_ []api.Node, s [][]api.Node) api.Node { return loop(block(s[0]...)) }},
		{"for @h {\n@s}", 0, func(x []api.Node, s [][]api.Node) api.Node { return loop(x[0], block(s[0]...)) }},
		{"l: for {\n@s}", 0, func(_ []api.Node, s [][]api.Node) api.Node { return of(api.NodeFor, "l", block(s[0]...)) }},
		{"m: for @h {\n@s}", 0, func(x []api.Node, s [][]api.Node) api.Node { return of(api.NodeFor, "m", x[0], block(s[0]...)) }},
		{"switch @h {\n@t}", 0, func(x []api.Node, _ [][]api.Node) api.Node { return choice(x...) }},
		{"switch @h {\n@tcase @1, @1:\n@sdefault:\n@scase @1:\n@s}", 0, func(x []api.Node, s [][]api.Node) api.Node {
			return choice(x[0], when(x[1], x[2], block(s[0]...)), when(block(s[1]...)), when(x[3], block(s[2]...)))
		}},
	}
}
