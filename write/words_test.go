package write_test

import (
	"slices"
	"strings"
	"testing"

	"gristmill/api"
)

func TestWordsWithArgs(t *testing.T) {
	a, b := word("a"), word("b")
	for want, words := range map[string][]api.Word{
		"a":                                 {a},
		"a b":                               {a, b},
		"a(b)":                              {word("a", b)},
		"a(b, a)":                           {word("a", b, a)},
		"a(b, a, b)":                        {word("a", b, a, b)},
		"a(b) a":                            {word("a", b), a},
		"a a(b)":                            {a, word("a", b)},
		"a(b) a(b)":                         {word("a", b), word("a", b)},
		"a(b(a))":                           {word("a", word("b", a))},
		"a(b(a), b)":                        {word("a", word("b", a), b)},
		"a(b, b(a))":                        {word("a", b, word("b", a))},
		"a(b(a), b(a, b), a)":               {word("a", word("b", a), word("b", a, b), a)},
		"a(b(a(b(a))))":                     {word("a", word("b", word("a", word("b", a))))},
		"a(b(a(b(a), b), b), b) b":          {word("a", word("b", word("a", word("b", a), b), b), b), b},
		"a(a, b(a, b(a, b(a, b)))) a(a, b)": {word("a", a, word("b", a, word("b", a, word("b", a, b)))), word("a", a, b)},
	} {
		isWritten(t, worded(words...), "%%\ne: "+want+"\n\t;\n")
		isWritten(t, altered(alt(), act(prec(alt(words...), "P"), "a")), "%%\ne:\n\t| "+want+" %prec P {a}\n\t;\n")
	}
	isWritten(t, worded(api.Word{Name: "a", Args: []api.Word{}}), "%%\ne: a\n\t;\n")
	isWritten(t, worded(api.Word{Name: "a", Args: make([]api.Word, 0, 4)}), "%%\ne: a\n\t;\n")
}

// TestDepth has words in as many others as they may be in, and in one more.
func TestDepth(t *testing.T) {
	for n := range 130 {
		x := worded(nested(n))
		if n <= 60 {
			isWritten(t, x, "%%\ne: "+nestedText(n)+"\n\t;\n")
		} else {
			isRefused(t, x)
		}
	}
}

// TestDepthWhereverItIs has words too deep in each place, and wherever none is, more words.
func TestDepthWhereverItIs(t *testing.T) {
	deep, tooDeep := nested(60), nested(61)
	for _, around := range []func(w api.Word) api.Text{
		func(w api.Word) api.Text { return worded(word("a"), w) },
		func(w api.Word) api.Text { return worded(w, word("a")) },
		func(w api.Word) api.Text { return worded(deep, deep, w, deep) },
		func(w api.Word) api.Text { return altered(alt(deep), alt(), alt(w)) },
		func(w api.Word) api.Text { return altered(alt(w), alt(deep), alt()) },
		func(w api.Word) api.Text { return altered(act(prec(alt(w), "P"), "a")) },
		func(w api.Word) api.Text { return ruled(rule("e", alt(deep)), rule("f", alt(w)), rule("g", alt())) },
		func(w api.Word) api.Text { return worded(word("c", w.Args...)) },
		func(w api.Word) api.Text { return worded(word("c", word("d"), w.Args[0])) },
		func(w api.Word) api.Text { return worded(word("c", w.Args[0], word("d"))) },
		func(w api.Word) api.Text { return worded(word("c", deep.Args[0], w.Args[0], deep.Args[0])) },
		func(w api.Word) api.Text { return worded(word("c", word("d", w.Args[0].Args[0]), word("d"))) },
		func(w api.Word) api.Text {
			return ruled(api.Rule{Name: "e", Params: strings.Fields(strings.Repeat("X ", 100)), Alts: []api.Alt{alt(w)}})
		},
	} {
		if !byTheBook(t, around(deep)) {
			t.Errorf("%s is refused", short(bookText(around(deep))))
		}
		isRefused(t, around(tooDeep))
	}
}

// TestDepthHasSides: how many words stand beside one another makes no difference to how deep they are.
func TestDepthHasSides(t *testing.T) {
	for _, n := range []int{59, 60, 61} {
		first, last := word("b"), word("b")
		for range n {
			first = word("a", first, word("c"), word("d", word("e")))
			last = word("a", word("c"), word("c"), last)
		}
		for _, x := range []api.Text{worded(first), worded(last), worded(first, last), worded(word("f"), first)} {
			byTheBook(t, x)
		}
		if n <= 59 != mayBe(worded(first)) || n <= 60 != mayBe(worded(last)) {
			t.Errorf("%d deep: %v, %v", n, mayBe(worded(first)), mayBe(worded(last)))
		}
	}
	wide := slices.Repeat([]api.Word{nested(59)}, 200)
	isWritten(t, worded(word("f", wide...)), "%%\ne: f("+strings.Repeat(nestedText(59)+", ", 199)+nestedText(59)+")\n\t;\n")
	wide[199] = nested(60)
	isRefused(t, worded(word("f", wide...)))
}

// TestDepthIsOfWordsAlone: a name that is none is refused in the deepest place; what is no word is in none.
func TestDepthIsOfWordsAlone(t *testing.T) {
	for n := range 61 {
		w := word("a b")
		for range n {
			w = word("a", w)
		}
		isRefused(t, worded(w))
		isRefused(t, worded(nested(60), w))
		w = word("a", nested(60-n).Args...)
		for range n {
			w = word("a", w)
		}
		byTheBook(t, worded(w))
	}
	var decls []api.Decl
	for range 100 {
		decls = append(decls, decl("left", "", strings.Fields(strings.Repeat("A ", 100))...))
	}
	x := worded(nested(60))
	x.Decls = decls
	if !byTheBook(t, x) {
		t.Error("it is refused")
	}
}
