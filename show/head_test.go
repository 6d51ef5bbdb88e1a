package show_test

import (
	"testing"

	"gristmill/api"
)

// NodeMakes in heads: alone and at the ends of all that has no ( ), [ ], { } of its own, they stand in parentheses.
func TestMakesInHeads(t *testing.T) {
	a, b := name("a"), name("b")
	for _, m := range []struct {
		node  api.Node
		shown string
	}{
		{making("T"), "T{}"},
		{making("T", key("a", b)), "T{a: b}"},
		{making("T", key("a", making("U")), key("b", making("U", key("a", a)))), "T{a: U{}, b: U{a: a}}"},
		{making("T", key("a", binary(making("U"), "==", list(typed("U"), making("U"))))), "T{a: U{} == []U{U{}}}"},
	} {
		in := "(" + m.shown + ")"
		isHead(t, m.node, in)
		isHead(t, unary("!", m.node), "!"+in)
		isHead(t, unary("-", unary("!", m.node)), "-!"+in)
		isHead(t, part(m.node, "a"), in+".a")
		isHead(t, index(m.node, a), in+"[a]")
		isHead(t, upTo(m.node, a), in+"[:a]")
		isHead(t, part(index(part(m.node, "a"), m.node), "b"), in+".a["+m.shown+"].b")
		for _, o := range signs {
			isHead(t, binary(m.node, o.text, a), in+" "+o.text+" a")
			isHead(t, binary(a, o.text, m.node), "a "+o.text+" "+in)
			isHead(t, binary(binary(a, "-", m.node), o.text, unary("!", m.node)), grouped("a - "+grouped(m.shown, o.binds <= 4), o.binds > 4)+" "+o.text+" !"+in)
		}
	}
}

func TestMakesWithinHeads(t *testing.T) {
	a, m := name("a"), making("T", key("a", name("b")))
	isHead(t, call("f", m), "f(T{a: b})")
	isHead(t, call("f", a, binary(m, "==", unary("-", m)), part(m, "a")), "f(a, T{a: b} == -T{a: b}, T{a: b}.a)")
	isHead(t, index(a, m), "a[T{a: b}]")
	isHead(t, upTo(a, part(m, "a")), "a[:T{a: b}.a]")
	isHead(t, list(typed("T")), "[]T{}")
	isHead(t, list(typed("T"), m, part(m, "a")), "[]T{T{a: b}, T{a: b}.a}")
	isHead(t, index(list(typed("T"), m), index(m, m)), "[]T{T{a: b}}[T{a: b}[T{a: b}]]")
	isHead(t, unary("-", binary(m, "+", m)), "-(T{a: b} + T{a: b})")
	isHead(t, binary(binary(m, "||", m), "&&", m), "(T{a: b} || T{a: b}) && (T{a: b})")
	isHead(t, part(binary(m, "+", a), "b"), "(T{a: b} + a).b")
	isHead(t, unary("-", unary("-", m)), "-(-T{a: b})")
	isHead(t, binary(call("f", m), "==", m), "f(T{a: b}) == (T{a: b})")
	isHead(t, binary(index(a, m), "==", m), "a[T{a: b}] == (T{a: b})")
	isHead(t, binary(list(typed("T"), m), "==", m), "[]T{T{a: b}} == (T{a: b})")
	isHead(t, binary(m, "==", binary(m, "==", m)), "(T{a: b}) == (T{a: b} == T{a: b})")
	isHead(t, binary(binary(m, "==", m), "==", m), "(T{a: b}) == (T{a: b}) == (T{a: b})")
}

// TestMakesBehindHeads has them where a head has ended.
func TestMakesBehindHeads(t *testing.T) {
	m := making("T")
	inner := block(define("a", m), tell(m))
	isStatement(t, branch(m, inner, branch(m, inner, inner)), "if (T{}) {\n\ta := T{}\n\treturn T{}\n} else if (T{}) {\n\ta := T{}\n\treturn T{}\n} else {\n\ta := T{}\n\treturn T{}\n}\n")
	isStatement(t, loop(m, inner), "for (T{}) {\n\ta := T{}\n\treturn T{}\n}\n")
	isStatement(t, loop(inner), "for {\n\ta := T{}\n\treturn T{}\n}\n")
	isStatement(t, choice(m, when(m, part(m, "a"), binary(m, "==", m), inner), when(inner), when(m, block(of(api.NodeVar, "a", typed("T"), m)))),
		"switch (T{}) {\ncase T{}, T{}.a, T{} == T{}:\n\ta := T{}\n\treturn T{}\ndefault:\n\ta := T{}\n\treturn T{}\ncase T{}:\n\tvar a T = T{}\n}\n")
	isShown(t, actions, block(branch(name("a"), block()), define("a", m), loop(m, block()), do("f", m), choice(m), assign(name("a"), m)), "if a {\n}\na := T{}\nfor (T{}) {\n}\nf(T{})\nswitch (T{}) {\n}\na = T{}\n")
}
