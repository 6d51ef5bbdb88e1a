package expand_test

import (
	"strings"
	"testing"

	"gristmill/api"
	"gristmill/expand"
)

// isNamed asks for a word's text, with places and without, room behind its Args and none, and that it stays as it was.
func isNamed(t *testing.T, w api.Word, want string) {
	t.Helper()
	elsewhere := copier{3, same}.word(w)
	elsewhere.At = -5
	for _, form := range []api.Word{w, elsewhere} {
		x := worded([]api.Word{form})
		kept := cloned(x)
		for range 2 {
			if got := expand.Name(x.Rules[0].Alts[0].Words[0]); got != want {
				t.Errorf("%s, not %s", short(got), short(want))
				return
			}
		}
		if !alike(x, kept) {
			t.Errorf("%s was changed", short(want))
		}
	}
}

// TestName: P13.3.
func TestName(t *testing.T) {
	a, b := word("A"), word("B")
	for want, w := range map[string]api.Word{
		"":                           {},
		"A":                          a,
		"a_1":                        word("a_1"),
		"f(A)":                       word("f", a),
		"f(A,B)":                     word("f", a, b),
		"f(A,B,A)":                   word("f", a, b, a),
		"f(g(A))":                    word("f", word("g", a)),
		"f(f(f(f(A))))":              word("f", word("f", word("f", word("f", a)))),
		"f(A,g(B))":                  word("f", a, word("g", b)),
		"f(g(B),A)":                  word("f", word("g", b), a),
		"f(g(A),g(B))":               word("f", word("g", a), word("g", b)),
		"f(g(h(A,B),A),B,h(g(A)))":   word("f", word("g", word("h", a, b), a), b, word("h", word("g", a))),
		"f(A(B(A)),B)":               word("f", word("A", word("B", a)), b),
		"()":                         word("", word("")),
		"(,)":                        word("", word(""), word("")),
		"((),,(,))":                  word("", word("", word("")), word(""), word("", word(""), word(""))),
		"f(":                         word("f("),
		"f((A)":                      word("f(", a),
		"f(),)(,,,)":                 word("f(),)", word(","), word(",")),
		" \x00\xff(\n,\u00e9\u65e5)": word(" \x00\xff", word("\n"), word("\u00e9\u65e5")),
	} {
		isNamed(t, w, want)
		if bookName(w) != want {
			t.Errorf("the book says %s, not %s", bookName(w), want)
		}
	}
}

// TestNameIsNoRulesAffair: it hangs on the word alone, of any depth and length.
func TestNameIsNoRulesAffair(t *testing.T) {
	for _, n := range []int{1, 8, 9, 60, 61, 1000, 5000} {
		w := word("A")
		for range n {
			w = word("f", w, word("B"))
		}
		isNamed(t, w, strings.Repeat("f(", n)+"A"+strings.Repeat(",B)", n))
		args := make([]api.Word, n)
		for i := range args {
			args[i] = word("ab")
		}
		isNamed(t, word("f", args...), "f("+strings.Repeat("ab,", n-1)+"ab)")
		isNamed(t, word("f", word(strings.Repeat("n", n))), "f("+strings.Repeat("n", n)+")")
	}
}

// TestNameIsWhatRulesAreCalled: P13.2's Name of what is told is P13.3's of the word with its Args resolved.
func TestNameIsWhatRulesAreCalled(t *testing.T) {
	x, _ := source(t, "%% s: p(f(A), p(A, B)) f(f(A)); p(X, Y): ; f(X): ;")
	told, fault := expand.Flat(x)
	if fault.Err != api.OK || len(told.Rules) != 5 {
		t.Fatal(fault, shown(told))
	}
	words := x.Rules[0].Alts[0].Words
	for i, w := range []api.Word{words[0].Args[0], words[0].Args[1], words[0], words[1]} {
		if name := expand.Name(w); told.Rules[i+1].Name != name {
			t.Errorf("%s, not %s", told.Rules[i+1].Name, name)
		}
	}
	for i, w := range words {
		if got := told.Rules[0].Alts[0].Words[i]; got.Name != expand.Name(w) || len(got.Args) != 0 {
			t.Errorf("%v, not %s", got, expand.Name(w))
		}
	}
}
