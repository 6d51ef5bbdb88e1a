package expand_test

import (
	"reflect"
	"strconv"
	"strings"
	"testing"

	"gristmill/api"
	"gristmill/expand"
	"gristmill/read"
)

func word(name string, args ...api.Word) api.Word { return api.Word{Name: name, Args: args} }

func alt(words ...api.Word) api.Alt { return api.Alt{Words: words} }

func rule(name string, alts ...api.Alt) api.Rule { return api.Rule{Name: name, Alts: alts} }

func template(r api.Rule, params ...string) api.Rule {
	r.Params = params
	return r
}

func ruled(rules ...api.Rule) api.Text { return api.Text{Rules: rules} }

// worded is a text of a rule s with these words, and of the other rules behind it.
func worded(words []api.Word, others ...api.Rule) api.Text {
	return ruled(append([]api.Rule{rule("s", alt(words...))}, others...)...)
}

// list is a copy of another one, with so much room behind it, in which something lies.
func list[T any](from []T, room int, other T, one func(x T) T) []T {
	if len(from)+room == 0 {
		return nil
	}
	out := make([]T, 0, len(from)+room)
	for _, x := range from {
		out = append(out, one(x))
	}
	for range room {
		out = append(out, other)
	}
	return out[:len(from)]
}

// copier copies texts with room behind their lists, and strings of its own.
type copier struct {
	room int
	say  func(s string) string
}

func (c copier) names(names []string) []string { return list(names, c.room, "?", c.say) }

func (c copier) decl(d api.Decl) api.Decl {
	return api.Decl{Kind: c.say(d.Kind), Type: c.say(d.Type), Names: c.names(d.Names), At: d.At}
}

func (c copier) rule(r api.Rule) api.Rule {
	return api.Rule{Name: c.say(r.Name), Params: c.names(r.Params), Alts: list(r.Alts, c.room, api.Alt{Prec: "?"}, c.alt), At: r.At}
}

func (c copier) alt(a api.Alt) api.Alt {
	a.Words, a.Prec, a.Action = c.words(a.Words), c.say(a.Prec), c.say(a.Action)
	return a
}

func (c copier) words(words []api.Word) []api.Word { return list(words, c.room, word("?"), c.word) }

func (c copier) word(w api.Word) api.Word {
	return api.Word{Name: c.say(w.Name), Args: c.words(w.Args), At: w.At}
}

func (c copier) text(t api.Text) api.Text {
	return api.Text{Decls: list(t.Decls, c.room, api.Decl{Kind: "?"}, c.decl), Rules: list(t.Rules, c.room, rule("?"), c.rule)}
}

func same(s string) string { return s }

// plain is a text whose lists of nothing are nil.
func plain(t api.Text) api.Text { return copier{0, same}.text(t) }

// roomy is a text with room behind its lists.
func roomy(t api.Text) api.Text { return copier{2, same}.text(t) }

// source reads a text, each part with its place; where a @ stands, which is no part of it, is told, too.
func source(t *testing.T, s string) (api.Text, int) {
	t.Helper()
	marked := strings.Index(s, "@")
	text, fault := read.Text(strings.Replace(s, "@", "", 1))
	if fault.Err != api.OK {
		t.Fatalf("%s: %v", s, fault)
	}
	return text, marked
}

// shown is a text as a line, without places.
func shown(t api.Text) string {
	var b strings.Builder
	for _, d := range t.Decls {
		b.WriteString("%" + d.Kind)
		if d.Type != "" {
			b.WriteString(" <" + d.Type + ">")
		}
		for _, name := range d.Names {
			b.WriteString(" " + name)
		}
		b.WriteString("; ")
	}
	b.WriteString("%%")
	for _, r := range t.Rules {
		var alts []string
		for _, a := range r.Alts {
			alts = append(alts, shownAlt(a))
		}
		b.WriteString(" " + r.Name + shownArgs(r.Params) + ":" + strings.Join(alts, " |") + ";")
	}
	return b.String()
}

func shownAlt(a api.Alt) string {
	var s string
	for _, w := range a.Words {
		s += " " + bookName(w)
	}
	if a.Prec != "" {
		s += " %prec " + a.Prec
	}
	if a.Has {
		s += " {" + a.Action + "}"
	}
	return s
}

func shownArgs(names []string) string {
	if len(names) == 0 {
		return ""
	}
	return "(" + strings.Join(names, ",") + ")"
}

func short(s string) string {
	if len(s) > 600 {
		return strconv.QuoteToASCII(s[:600]) + ".."
	}
	return strconv.QuoteToASCII(s)
}

// answers asks twice, of copies with room behind their lists and without; all answers must be this one, and the text must stay as it was.
func answers(t *testing.T, x, want api.Text, fault api.Fault) {
	t.Helper()
	for _, form := range []api.Text{x, plain(x), roomy(x)} {
		kept := cloned(form)
		for range 2 {
			got, f := expand.Flat(form)
			if f != fault || !reflect.DeepEqual(plain(got), plain(want)) {
				t.Errorf("%v %s, not %v %s, of %s", f, short(shown(got)), fault, short(shown(want)), short(shown(x)))
				return
			}
		}
		if !alike(form, kept) {
			t.Errorf("%s was changed", short(shown(x)))
		}
	}
}

// byTheBook holds a text against the document's words, and tells what these say.
func byTheBook(t *testing.T, x api.Text) (api.Text, api.Fault) {
	t.Helper()
	want, fault := bookFlat(x)
	if fault.Err != api.OK {
		want = api.Text{}
	}
	answers(t, x, want, fault)
	return want, fault
}

// isTold asks what is told of a source as a line.
func isTold(t *testing.T, s, want string) {
	t.Helper()
	x, _ := source(t, s)
	told, fault := byTheBook(t, x)
	if got := shown(told); fault.Err != api.OK || got != want {
		t.Errorf("%s: %v %s, not %s", short(s), fault, short(got), short(want))
	}
}

// isFault asks for a fault at the place of the @.
func isFault(t *testing.T, s string, err api.Errno) {
	t.Helper()
	x, at := source(t, s)
	if at < 0 {
		at = 0
	}
	if _, fault := byTheBook(t, x); fault != (api.Fault{Err: err, At: at}) {
		t.Errorf("%s: %v, not %v at %d", short(s), fault, err, at)
	}
}
