package write_test

import (
	"reflect"
	"strconv"
	"strings"
	"testing"

	"gristmill/api"
	"gristmill/read"
	"gristmill/write"
)

func decl(kind, of string, names ...string) api.Decl {
	return api.Decl{Kind: kind, Type: of, Names: names}
}

func declared(decls ...api.Decl) api.Text { return api.Text{Decls: decls} }

func rule(name string, alts ...api.Alt) api.Rule { return api.Rule{Name: name, Alts: alts} }

func ruled(rules ...api.Rule) api.Text { return api.Text{Rules: rules} }

// altered is a text of one rule e.
func altered(alts ...api.Alt) api.Text { return ruled(rule("e", alts...)) }

func word(name string, args ...api.Word) api.Word { return api.Word{Name: name, Args: args} }

func alt(words ...api.Word) api.Alt { return api.Alt{Words: words} }

func prec(a api.Alt, name string) api.Alt {
	a.Prec = name
	return a
}

func act(a api.Alt, action string) api.Alt {
	a.Has, a.Action = true, action
	return a
}

// worded is a text of one alternative.
func worded(words ...api.Word) api.Text { return altered(alt(words...)) }

func acted(action string) api.Text { return altered(act(api.Alt{}, action)) }

// nested is a word that has so many around its innermost one.
func nested(around int) api.Word {
	w := word("b")
	for range around {
		w = word("a", w)
	}
	return w
}

// nestedText is what such a word is written as.
func nestedText(around int) string {
	return strings.Repeat("a(", around) + "b" + strings.Repeat(")", around)
}

// lists are copied with so much room behind, in which something lies.
func list[T any](from []T, room int, other T, one func(x T) T) []T {
	if len(from)+room == 0 {
		return nil
	}
	out := make([]T, len(from)+room)
	for i, x := range from {
		out[i] = one(x)
	}
	for i := range room {
		out[len(from)+i] = other
	}
	return out[:len(from)]
}

// copier copies texts: with places of its own, room behind lists, and strings of its own.
type copier struct {
	at   func() int
	room int
	say  func(s string) string
}

func (c copier) names(names []string) []string { return list(names, c.room, "?", c.say) }

func (c copier) text(t api.Text) api.Text {
	return api.Text{
		Decls: list(t.Decls, c.room, api.Decl{Kind: "?"}, func(d api.Decl) api.Decl {
			return api.Decl{Kind: c.say(d.Kind), Type: c.say(d.Type), Names: c.names(d.Names), At: c.at()}
		}),
		Rules: list(t.Rules, c.room, api.Rule{Name: "?"}, func(r api.Rule) api.Rule {
			return api.Rule{Name: c.say(r.Name), Params: c.names(r.Params), Alts: list(r.Alts, c.room, api.Alt{Prec: "?"}, c.alt), At: c.at()}
		}),
	}
}

func (c copier) alt(a api.Alt) api.Alt {
	return api.Alt{Words: c.words(a.Words), Prec: c.say(a.Prec), Has: a.Has, Action: c.say(a.Action), Where: c.at(), At: c.at()}
}

func (c copier) words(words []api.Word) []api.Word {
	return list(words, c.room, word("?"), func(w api.Word) api.Word {
		return api.Word{Name: c.say(w.Name), Args: c.words(w.Args), At: c.at()}
	})
}

func same(s string) string { return s }

// bare is a text without places; lists of nothing are nil.
func bare(t api.Text) api.Text {
	return copier{func() int { return 0 }, 0, same}.text(t)
}

// forms are a text's copies in other places, with lists of nothing and nil ones, and room behind lists.
func forms(t api.Text) []api.Text {
	far := 0
	return []api.Text{
		t,
		bare(t),
		copier{func() int { return -1 }, 1, same}.text(t),
		copier{func() int { far = 7*far - 1<<40; return far }, 3, same}.text(t),
	}
}

func short(s string) string {
	if len(s) > 600 {
		return strconv.QuoteToASCII(s[:600]) + ".."
	}
	return strconv.QuoteToASCII(s)
}

// isWritten asks for what a text is written as, and that the text stays as it was; that this is read as the text, but for places, unless it is too long for a source; and that what was read is written alike.
func isWritten(t *testing.T, x api.Text, want string) {
	t.Helper()
	for _, form := range forms(x) {
		kept := cloned(form)
		for range 2 {
			if got, e := write.Text(form); e != api.OK || got != want {
				t.Errorf("%v %s (%d bytes), not %s (%d)", e, short(got), len(got), short(want), len(want))
				return
			}
		}
		if !alike(form, kept) {
			t.Errorf("%s: the text was changed", short(want))
		}
	}
	isReadBack(t, x, want)
}

func isReadBack(t *testing.T, x api.Text, s string) {
	t.Helper()
	text, fault := read.Text(s)
	if len(s) > api.MaxSource {
		if fault.Err != api.ErrLong {
			t.Errorf("%s: of %d bytes, but %v", short(s), len(s), fault)
		}
		return
	}
	if fault != (api.Fault{}) || !reflect.DeepEqual(bare(text), bare(x)) {
		t.Errorf("%s: read as another text: %v", short(s), fault)
		return
	}
	if again, e := write.Text(text); e != api.OK || again != s {
		t.Errorf("%s: written again as %v %s", short(s), e, short(again))
	}
}

// isRefused asks for ErrShape, and nothing else.
func isRefused(t *testing.T, x api.Text) {
	t.Helper()
	for _, form := range forms(x) {
		if s, e := write.Text(form); e != api.ErrShape || s != "" {
			t.Errorf("%v %s", e, short(s))
			return
		}
	}
}

// isWrittenOnce and isRefusedOnce ask no more than what is answered, of texts that are many.
func isWrittenOnce(t *testing.T, x api.Text, want string) {
	t.Helper()
	if got, e := write.Text(x); e != api.OK || got != want {
		t.Errorf("%v %s, not %s", e, short(got), short(want))
	}
}

func isRefusedOnce(t *testing.T, x api.Text) {
	t.Helper()
	if s, e := write.Text(x); e != api.ErrShape || s != "" {
		t.Errorf("%v %s, not of %s", e, short(s), short(bookText(x)))
	}
}
