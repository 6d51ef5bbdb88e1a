package write_test

import (
	"strings"
	"testing"

	"gristmill/api"
)

// written is an alternative, and what it is written as.
type written struct {
	alt  api.Alt
	text string
}

// alts are with and without Words, Prec, an action, in each combination.
func alts() []written {
	var out []written
	for words, x := range map[string]api.Alt{
		"":              alt(),
		" A":            alt(word("A")),
		" A b":          alt(word("A"), word("b")),
		" f(A)":         alt(word("f", word("A"))),
		" A f(A, b) A":  alt(word("A"), word("f", word("A"), word("b")), word("A")),
		" f(g(A), h) B": alt(word("f", word("g", word("A")), word("h")), word("B")),
		" prec(A) prec": alt(word("prec", word("A")), word("prec")),
	} {
		out = append(out,
			written{x, words},
			written{prec(x, "P"), words + " %prec P"},
			written{act(x, ""), words + " {}"},
			written{act(x, " $$ = $1 "), words + " { $$ = $1 }"},
			written{prec(act(x, ""), "P"), words + " %prec P {}"},
			written{prec(act(x, "{//}\n}"), "prec"), words + " %prec prec {{//}\n}}"},
		)
	}
	return out
}

func TestAlts(t *testing.T) {
	for _, a := range alts() {
		isWritten(t, altered(a.alt), "%%\ne:"+a.text+"\n\t;\n")
		for _, b := range alts() {
			isWritten(t, altered(a.alt, b.alt), "%%\ne:"+a.text+"\n\t|"+b.text+"\n\t;\n")
		}
		isWritten(t, altered(a.alt, alt(), a.alt, alt()), "%%\ne:"+a.text+"\n\t|\n\t|"+a.text+"\n\t|\n\t;\n")
		isWritten(t, ruled(rule("e", a.alt), rule("f", a.alt, a.alt)), "%%\ne:"+a.text+"\n\t;\nf:"+a.text+"\n\t|"+a.text+"\n\t;\n")
		isRefused(t, ruled(rule("e", a.alt), rule("f")))
		isRefused(t, ruled(rule("e"), rule("f", a.alt)))
	}
	isWritten(t, altered(alt()), "%%\ne:\n\t;\n")
	isWritten(t, altered(alt(), alt()), "%%\ne:\n\t|\n\t;\n")
	isWritten(t, altered(alt(), alt(), alt()), "%%\ne:\n\t|\n\t|\n\t;\n")
}

// TestAltsWithoutAnAction: what has none has no Action; Where plays no part.
func TestAltsWithoutAnAction(t *testing.T) {
	for _, a := range alts() {
		for _, action := range []string{"", " ", "a", "{}", "$$ = $1", "}", "{", "\"", "//"} {
			x := a.alt
			x.Has, x.Action = false, action
			for _, at := range []int{0, 1, -1, 1 << 40} {
				x.Where = at
				if action == "" {
					isWritten(t, altered(x), bookText(altered(x)))
				} else {
					isRefused(t, altered(x))
					isRefused(t, altered(alt(), x))
					isRefused(t, altered(x, act(alt(), action)))
				}
			}
		}
	}
}

func TestRulesOfNoAlts(t *testing.T) {
	isRefused(t, ruled(rule("e")))
	isRefused(t, ruled(api.Rule{Name: "e", Alts: make([]api.Alt, 0, 2)}))
	isRefused(t, ruled(api.Rule{Name: "e", Params: []string{"X"}}))
	isRefused(t, ruled(api.Rule{}))
	isRefused(t, ruled(api.Rule{Alts: []api.Alt{{}}}))
	isRefused(t, ruled(rule("e", alt()), rule("f"), rule("g", alt())))
}

func TestParams(t *testing.T) {
	for params, want := range map[string]string{
		"":          "",
		"X":         "(X)",
		"X Y":       "(X, Y)",
		"X Y Z":     "(X, Y, Z)",
		"X X":       "(X, X)",
		"e":         "(e)",
		"_ a9 prec": "(_, a9, prec)",
	} {
		r := rule("e", alt(word("X")), alt())
		r.Params = strings.Fields(params)
		isWritten(t, ruled(r), "%%\ne"+want+": X\n\t|\n\t;\n")
		isWritten(t, ruled(rule("f", alt()), r, r), "%%\nf:\n\t;\n"+strings.Repeat("e"+want+": X\n\t|\n\t;\n", 2))
		r.Params = append(r.Params, "")
		isRefused(t, ruled(r))
		r.Params[0], r.Params[len(r.Params)-1] = "", "X"
		if len(r.Params) > 1 {
			isRefused(t, ruled(r))
		}
	}
}

func TestRulesOfNamesThatAreNone(t *testing.T) {
	for _, name := range noNames() {
		isRefused(t, ruled(rule(name, alt())))
		isRefused(t, ruled(rule("e", alt()), rule(name, alt())))
		for _, params := range [][]string{{name}, {name, "X"}, {"X", name}, {"X", name, "Y"}} {
			isRefused(t, ruled(api.Rule{Name: "e", Params: params, Alts: []api.Alt{{}}}))
		}
		isRefused(t, worded(word(name)))
		isRefused(t, worded(word("a"), word(name)))
		isRefused(t, worded(word(name), word("a")))
		isRefused(t, worded(word(name, word("a"))))
		isRefused(t, worded(word("a", word(name))))
		isRefused(t, worded(word("a", word("b"), word(name), word("c"))))
		isRefused(t, worded(word("a", word("b", word("c", word(name))))))
		isRefused(t, altered(alt(), alt(word(name))))
		if name != "" {
			isRefused(t, altered(prec(alt(), name)))
			isRefused(t, altered(alt(), prec(alt(word("a")), name), alt()))
		}
	}
	for _, name := range someNames() {
		isWritten(t, ruled(rule(name, alt())), "%%\n"+name+":\n\t;\n")
		isWritten(t, ruled(api.Rule{Name: name, Params: []string{name, name}, Alts: []api.Alt{prec(alt(word(name, word(name, word(name)), word(name)), word(name)), name)}}),
			"%%\n"+name+"("+name+", "+name+"): "+name+"("+name+"("+name+"), "+name+") "+name+" %prec "+name+"\n\t;\n")
	}
}

func TestManyRules(t *testing.T) {
	for _, many := range []int{2, 3, 10, 100, 1000} {
		var rules []api.Rule
		var all []api.Alt
		var words []api.Word
		for range many {
			rules = append(rules, rule("e", alt(word("a"))))
			all = append(all, alt(word("a")))
			words = append(words, word("a"))
		}
		isWritten(t, ruled(rules...), "%%\n"+strings.Repeat("e: a\n\t;\n", many))
		isWritten(t, altered(all...), "%%\ne: a"+strings.Repeat("\n\t| a", many-1)+"\n\t;\n")
		isWritten(t, worded(words...), "%%\ne:"+strings.Repeat(" a", many)+"\n\t;\n")
		isWritten(t, worded(word("f", words...)), "%%\ne: f(a"+strings.Repeat(", a", many-1)+")\n\t;\n")
		words[many-1].Name = "1"
		isRefused(t, worded(words...))
		isRefused(t, worded(word("f", words...)))
		all[many-1].Action = "a"
		isRefused(t, altered(all...))
		rules[many-1].Alts = nil
		isRefused(t, ruled(rules...))
	}
}

// TestDeclsAndRules: decls stand ahead of rules, each in order.
func TestDeclsAndRules(t *testing.T) {
	l := api.Rule{Name: "l", Params: []string{"X"}, Alts: []api.Alt{alt(word("X")), act(prec(alt(word("l", word("X")), word("N")), "N"), "a")}}
	x := ruled(l)
	x.Decls = []api.Decl{decl("token", "int", "N")}
	isWritten(t, x, "%token <int> N;\n%%\nl(X): X\n\t| l(X) N %prec N {a}\n\t;\n")
	x.Decls = append(x.Decls, decl("start", "", "s"))
	x.Rules = append(x.Rules, rule("s", alt(word("l", word("N")))), rule("a", alt()))
	isWritten(t, x, "%token <int> N;\n%start s;\n%%\nl(X): X\n\t| l(X) N %prec N {a}\n\t;\ns: l(N)\n\t;\na:\n\t;\n")
	wrong := bare(x)
	wrong.Decls[1].Names = nil
	isRefused(t, wrong)
	wrong = bare(x)
	wrong.Rules[2].Alts = nil
	isRefused(t, wrong)
}
