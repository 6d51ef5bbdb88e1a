package show_test

import (
	"strings"
	"testing"

	"gristmill/api"
)

// signs are the operators between two, and how strongly they bind.
var signs = []struct {
	text  string
	binds int
}{{"||", 1}, {"&&", 2}, {"==", 3}, {"!=", 3}, {"<", 3}, {"<=", 3}, {">", 3}, {">=", 3}, {"+", 4}, {"-", 4}, {"*", 5}, {"/", 5}, {"%", 5}}

func grouped(s string, is bool) string {
	if is {
		return "(" + s + ")"
	}
	return s
}

// P5.3.
func TestLeaves(t *testing.T) {
	digits := strings.Repeat("1234567890", 4)
	for _, s := range []string{"0", "1", "10", "9223372036854775808", digits} {
		isExpression(t, whole(s), s)
	}
	for _, s := range []string{"0.0", "1.5", "10.250", digits[:20] + "." + digits[20:]} {
		isExpression(t, pointed(s), s)
	}
	for _, s := range []string{"a", "_1", "int", "nil", "len", "True", strings.Repeat("Z", 40)} {
		isExpression(t, name(s), s)
	}
	isExpression(t, truth(0), "false")
	isExpression(t, truth(1), "true")
	for n, s := range map[int]string{0: "$$", 1: "$1", 2: "$2", 9: "$9", 10: "$10", 19: "$19", 20: "$20", 98: "$98", 99: "$99"} {
		isExpression(t, dollar(n), s)
		isStatement(t, assign(dollar(n), unary("-", dollar(n))), s+" = -"+s+"\n")
	}
}

func TestStrings(t *testing.T) {
	const digits = "0123456789abcdef"
	pairs := map[byte]string{'\n': `\n`, '\t': `\t`, '\r': `\r`, '\\': `\\`, '"': `\"`}
	var all, shown strings.Builder
	for c := range 256 {
		s := pairs[byte(c)]
		if s == "" && c >= 32 && c <= 126 {
			s = string(rune(c))
		} else if s == "" {
			s = `\x` + digits[c/16:c/16+1] + digits[c%16:c%16+1]
		}
		all.WriteByte(byte(c))
		shown.WriteString(s)
		isExpression(t, quoted(string([]byte{byte(c)})), `"`+s+`"`)
		isStatement(t, do("f", quoted("a"+string([]byte{byte(c)})+"1"), quoted("")), `f("a`+s+`1", "")`+"\n")
	}
	isExpression(t, quoted(all.String()), `"`+shown.String()+`"`)
	isExpression(t, quoted(""), `""`)
	isExpression(t, quoted("a := \"b\" // {\n$1 \u00e9\\n"), `"a := \"b\" // {\n$1 \xc3\xa9\\n"`)
	isHead(t, quoted("T{}"), `"T{}"`)
}

func TestOperatorsBelowOperators(t *testing.T) {
	a, b, c := name("a"), name("b"), name("c")
	for _, o := range signs {
		isExpression(t, binary(a, o.text, b), "a "+o.text+" b")
		for _, i := range signs {
			in := "b " + i.text + " c"
			isExpression(t, binary(a, o.text, binary(b, i.text, c)), "a "+o.text+" "+grouped(in, i.binds <= o.binds))
			isExpression(t, binary(binary(b, i.text, c), o.text, a), grouped(in, i.binds < o.binds)+" "+o.text+" a")
			isHead(t, binary(binary(b, i.text, c), o.text, binary(b, i.text, c)), grouped(in, i.binds < o.binds)+" "+o.text+" "+grouped(in, i.binds <= o.binds))
		}
		for _, u := range []string{"-", "!"} {
			isExpression(t, unary(u, binary(a, o.text, b)), u+"(a "+o.text+" b)")
			isExpression(t, binary(unary(u, a), o.text, unary(u, b)), u+"a "+o.text+" "+u+"b")
		}
		isExpression(t, unary("-", unary("-", binary(a, o.text, b))), "-(-(a "+o.text+" b))")
	}
}

func TestRowsOfOperators(t *testing.T) {
	a, b, c, d := name("a"), name("b"), name("c"), name("d")
	isExpression(t, binary(binary(binary(a, "-", b), "-", c), "-", d), "a - b - c - d")
	isExpression(t, binary(a, "-", binary(b, "-", binary(c, "-", d))), "a - (b - (c - d))")
	isExpression(t, binary(binary(a, "-", b), "-", binary(c, "-", d)), "a - b - (c - d)")
	isExpression(t, binary(binary(a, "||", b), "&&", binary(c, "||", d)), "(a || b) && (c || d)")
	isExpression(t, binary(binary(a, "*", b), "+", binary(c, "/", d)), "a * b + c / d")
	isExpression(t, binary(binary(a, "==", b), "==", binary(c, "<", d)), "a == b == (c < d)")
	isExpression(t, binary(binary(a, "+", b), "<", binary(binary(c, "%", d), "-", a)), "a + b < c % d - a")
	isExpression(t, binary(binary(a, "&&", binary(b, "&&", c)), "||", binary(c, "||", d)), "a && (b && c) || (c || d)")
}

func TestOneSided(t *testing.T) {
	a := name("a")
	isExpression(t, unary("-", a), "-a")
	isExpression(t, unary("!", a), "!a")
	isExpression(t, unary("!", unary("!", a)), "!!a")
	isExpression(t, unary("!", unary("-", a)), "!-a")
	isExpression(t, unary("-", unary("!", a)), "-!a")
	isExpression(t, unary("-", unary("-", a)), "-(-a)")
	isExpression(t, unary("-", unary("-", unary("-", whole("3")))), "-(-(-3))")
	isExpression(t, unary("-", unary("!", unary("-", unary("-", a)))), "-!-(-a)")
	isExpression(t, binary(a, "-", unary("-", a)), "a - -a")
	isExpression(t, binary(unary("-", a), "-", unary("-", unary("-", a))), "-a - -(-a)")
	isExpression(t, unary("-", part(unary("-", a), "b")), "-(-a).b")
	isExpression(t, unary("-", index(unary("-", a), unary("-", a))), "-(-a)[-a]")
	isExpression(t, unary("-", call("f", unary("-", a))), "-f(-a)")
	isExpression(t, unary("-", making("T", key("a", unary("-", a)))), "-T{a: -a}")
	isExpression(t, unary("-", binary(unary("-", a), "*", a)), "-(-a * a)")
	isHead(t, unary("-", unary("-", a)), "-(-a)")
}

// TestPlacesOfParts has each kind of expression ahead of [x], of [:x] and of a point; how it stands ahead of a point is told where that is another way.
func TestPlacesOfParts(t *testing.T) {
	a, b := name("a"), name("b")
	for _, x := range []struct {
		node         api.Node
		shown, point string
	}{
		{whole("0"), "0", "(0)"},
		{whole("12"), "12", "(12)"},
		{pointed("1.5"), "1.5", "(1.5)"},
		{quoted("a"), `"a"`, ""},
		{truth(1), "true", ""},
		{a, "a", ""},
		{dollar(0), "$$", ""},
		{dollar(12), "$12", ""},
		{call("f"), "f()", ""},
		{call("f", a, b), "f(a, b)", ""},
		{index(a, b), "a[b]", ""},
		{upTo(a, b), "a[:b]", ""},
		{part(a, "b"), "a.b", ""},
		{part(whole("1"), "b"), "(1).b", ""},
		{index(whole("1"), whole("2")), "1[2]", ""},
		{list(typed("int")), "[]int{}", ""},
		{list(typed("int"), whole("1")), "[]int{1}", ""},
		{making("T"), "T{}", ""},
		{making("T", key("a", b)), "T{a: b}", ""},
		{unary("-", a), "(-a)", ""},
		{unary("!", a), "(!a)", ""},
		{unary("-", whole("1")), "(-1)", ""},
		{binary(a, "+", b), "(a + b)", ""},
		{binary(a, "||", b), "(a || b)", ""},
		{binary(whole("1"), "*", whole("2")), "(1 * 2)", ""},
	} {
		isExpression(t, index(x.node, b), x.shown+"[b]")
		isExpression(t, upTo(x.node, b), x.shown+"[:b]")
		if x.point == "" {
			x.point = x.shown
		}
		isExpression(t, part(x.node, "c"), x.point+".c")
		isExpression(t, part(part(x.node, "c"), "d"), x.point+".c.d")
		isExpression(t, binary(unary("-", part(x.node, "c")), "*", part(x.node, "d")), "-"+x.point+".c * "+x.point+".d")
	}
}

// TestFreePlaces has expressions where they bind as they like.
func TestFreePlaces(t *testing.T) {
	a, x := name("a"), binary(name("a"), "||", name("b"))
	isExpression(t, index(a, x), "a[a || b]")
	isExpression(t, upTo(a, x), "a[:a || b]")
	isExpression(t, call("f", x), "f(a || b)")
	isExpression(t, call("f", x, a, unary("-", x)), "f(a || b, a, -(a || b))")
	isExpression(t, list(typed("int"), x), "[]int{a || b}")
	isExpression(t, list(slice(typed("T")), x, making("T"), list(typed("T"))), "[][]T{a || b, T{}, []T{}}")
	isExpression(t, making("T", key("a", x)), "T{a: a || b}")
	isExpression(t, making("T", key("a", x), key("b", a), key("a", making("U"))), "T{a: a || b, b: a, a: U{}}")
	isExpression(t, index(index(a, whole("1")), index(a, pointed("1.5"))), "a[1][a[1.5]]")
}
