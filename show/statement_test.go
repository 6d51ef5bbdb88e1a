package show_test

import (
	"testing"

	"gristmill/api"
)

// P5.4.
func TestActions(t *testing.T) {
	isShown(t, actions, block(), "")
	isShown(t, actions, block(do("f")), "f()\n")
	isShown(t, actions, block(block()), "{\n}\n")
	isShown(t, actions, block(do("f"), assign(dollar(0), dollar(1)), block(do("g"), block(do("h"))), tell()), "f()\n$$ = $1\n{\n\tg()\n\t{\n\t\th()\n\t}\n}\nreturn\n")
	three := binary(dollar(1), "+", whole("2"))
	isShown(t, actions, block(assign(dollar(0), binary(three, "*", unary("-", unary("-", whole("3")))))), "$$ = ($1 + 2) * -(-3)\n")
}

// P5.2.
func TestSimpleStatements(t *testing.T) {
	a, b, f := name("a"), name("b"), call("f", whole("1"))
	for _, s := range []struct {
		node  api.Node
		shown string
	}{
		{of(api.NodeVar, "a", typed("int")), "var a int"},
		{of(api.NodeVar, "a", slice(slice(typed("T")))), "var a [][]T"},
		{of(api.NodeVar, "a", typed("int"), whole("1")), "var a int = 1"},
		{of(api.NodeVar, "b", slice(typed("T")), list(typed("T"))), "var b []T = []T{}"},
		{of(api.NodeVar, "b", typed("bool"), binary(a, "||", b)), "var b bool = a || b"},
		{of(api.NodeVar, "b", typed("T"), making("T")), "var b T = T{}"},
		{define("a", whole("1")), "a := 1"},
		{define("a", f), "a := f(1)"},
		{define("a", binary(a, "||", b)), "a := a || b"},
		{define("a", making("T", key("a", b))), "a := T{a: b}"},
		{with(api.NodeDefine, 2, a, b, f), "a, b := f(1)"},
		{with(api.NodeDefine, 4, a, b, a, name("c"), call("g")), "a, b, a, c := g()"},
		{assign(a, whole("1")), "a = 1"},
		{assign(a, f), "a = f(1)"},
		{assign(a, binary(a, "||", b)), "a = a || b"},
		{assign(index(part(index(a, whole("0")), "b"), binary(a, "+", b)), a), "a[0].b[a + b] = a"},
		{assign(part(a, "b"), making("T")), "a.b = T{}"},
		{assign(index(a, making("T")), b), "a[T{}] = b"},
		{with(api.NodeAssign, 2, a, b, b, a), "a, b = b, a"},
		{with(api.NodeAssign, 2, a, b, f), "a, b = f(1)"},
		{with(api.NodeAssign, 2, part(a, "b"), index(b, a), f, f), "a.b, b[a] = f(1), f(1)"},
		{with(api.NodeAssign, 3, a, b, a, f, binary(a, "||", b), a), "a, b, a = f(1), a || b, a"},
		{with(api.NodeAssign, 3, a, b, a, f), "a, b, a = f(1)"},
		{tell(), "return"},
		{tell(a), "return a"},
		{tell(f), "return f(1)"},
		{tell(a, binary(a, "||", b), making("T"), b), "return a, a || b, T{}, b"},
		{of(api.NodeBreak, ""), "break"},
		{of(api.NodeBreak, "a"), "break a"},
		{of(api.NodeContinue, ""), "continue"},
		{of(api.NodeContinue, "b"), "continue b"},
		{do("f"), "f()"},
		{do("f", a, binary(a, "||", b)), "f(a, a || b)"},
		{assign(dollar(0), dollar(1)), "$$ = $1"},
		{with(api.NodeAssign, 2, dollar(0), part(dollar(0), "a"), index(dollar(99), dollar(2)), dollar(10)), "$$, $$.a = $99[$2], $10"},
		{assign(index(dollar(1), whole("0")), dollar(0)), "$1[0] = $$"},
		{do("f", dollar(0), dollar(1)), "f($$, $1)"},
		{tell(dollar(3)), "return $3"},
		{of(api.NodeVar, "a", typed("int"), dollar(9)), "var a int = $9"},
	} {
		isStatement(t, s.node, s.shown+"\n")
	}
}

func TestStatementsWithBlocks(t *testing.T) {
	a, b, one, two := name("a"), name("b"), block(do("f")), block(do("g"), do("h"))
	for _, s := range []struct {
		node  api.Node
		shown string
	}{
		{block(), "{\n}\n"},
		{one, "{\n\tf()\n}\n"},
		{two, "{\n\tg()\n\th()\n}\n"},
		{block(block(two), one), "{\n\t{\n\t\t{\n\t\t\tg()\n\t\t\th()\n\t\t}\n\t}\n\t{\n\t\tf()\n\t}\n}\n"},
		{branch(a, block()), "if a {\n}\n"},
		{branch(a, one), "if a {\n\tf()\n}\n"},
		{branch(a, block(), block()), "if a {\n} else {\n}\n"},
		{branch(a, one, two), "if a {\n\tf()\n} else {\n\tg()\n\th()\n}\n"},
		{branch(a, block(), branch(b, block())), "if a {\n} else if b {\n}\n"},
		{branch(a, one, branch(b, two)), "if a {\n\tf()\n} else if b {\n\tg()\n\th()\n}\n"},
		{branch(a, one, branch(b, two, one)), "if a {\n\tf()\n} else if b {\n\tg()\n\th()\n} else {\n\tf()\n}\n"},
		{branch(a, one, branch(b, two, branch(a, one, two))), "if a {\n\tf()\n} else if b {\n\tg()\n\th()\n} else if a {\n\tf()\n} else {\n\tg()\n\th()\n}\n"},
		{branch(a, one, block(branch(b, two))), "if a {\n\tf()\n} else {\n\tif b {\n\t\tg()\n\t\th()\n\t}\n}\n"},
		{branch(a, block(branch(b, two)), one), "if a {\n\tif b {\n\t\tg()\n\t\th()\n\t}\n} else {\n\tf()\n}\n"},
		{loop(block()), "for {\n}\n"},
		{loop(two), "for {\n\tg()\n\th()\n}\n"},
		{loop(a, block()), "for a {\n}\n"},
		{loop(binary(a, "||", b), one), "for a || b {\n\tf()\n}\n"},
		{of(api.NodeFor, "l", block()), "l: for {\n}\n"},
		{of(api.NodeFor, "l", a, one), "l: for a {\n\tf()\n}\n"},
		{of(api.NodeFor, "l", loop(one).Kids[0]), "l: for {\n\tf()\n}\n"},
		{of(api.NodeFor, "l", a, block(of(api.NodeFor, "m", block(of(api.NodeContinue, "l"), of(api.NodeBreak, "m"))))), "l: for a {\n\tm: for {\n\t\tcontinue l\n\t\tbreak m\n\t}\n}\n"},
		{choice(a), "switch a {\n}\n"},
		{choice(a, when(block())), "switch a {\ndefault:\n}\n"},
		{choice(a, when(b, block())), "switch a {\ncase b:\n}\n"},
		{choice(a, when(two)), "switch a {\ndefault:\n\tg()\n\th()\n}\n"},
		{choice(a, when(b, one)), "switch a {\ncase b:\n\tf()\n}\n"},
		{choice(a, when(whole("1"), binary(a, "||", b), making("T"), one), when(block()), when(b, block()), when(two), when(quoted("a"), two)), "switch a {\ncase 1, a || b, T{}:\n\tf()\ndefault:\ncase b:\ndefault:\n\tg()\n\th()\ncase \"a\":\n\tg()\n\th()\n}\n"},
		{choice(a, when(b, block(one))), "switch a {\ncase b:\n\t{\n\t\tf()\n\t}\n}\n"},
		{choice(a, when(b, block(choice(b, when(a, one), when(two)))), when(one)), "switch a {\ncase b:\n\tswitch b {\n\tcase a:\n\t\tf()\n\tdefault:\n\t\tg()\n\t\th()\n\t}\ndefault:\n\tf()\n}\n"},
		{branch(a, block(loop(block(choice(a, when(block(block(one))))))), block(choice(b))), "if a {\n\tfor {\n\t\tswitch a {\n\t\tdefault:\n\t\t\t{\n\t\t\t\t{\n\t\t\t\t\tf()\n\t\t\t\t}\n\t\t\t}\n\t\t}\n\t}\n} else {\n\tswitch b {\n\t}\n}\n"},
	} {
		isStatement(t, s.node, s.shown)
	}
}
