package symbols_test

import (
	"reflect"
	"strconv"
	"strings"
	"testing"

	"gristmill/api"
	"gristmill/symbols"
)

// laid is a text that is laid out of fields with blanks between: %token <int> A B ; %% s : A B | %prec P {x}7 ; t : | ; u ;
// A name of ” is an empty one. What begins with a @ is what is marked; a @ alone marks the Alt. f(A,B) has Params, or Args. {x}7 is an action x at 7, !{x}7 one without Has. Each part has a place of its own.
type laid struct {
	fields []string
	place  int
	marked int
}

func (l *laid) next() string {
	if len(l.fields) == 0 {
		return ""
	}
	field := l.fields[0]
	l.fields = l.fields[1:]
	return field
}

// at is the place of the next part.
func (l *laid) at(marked bool) int {
	l.place += 7
	if marked {
		l.marked = l.place
	}
	return l.place
}

func layOut(s string) (api.Text, int) {
	l := laid{fields: strings.Fields(s), place: 100}
	var t api.Text
	field := l.next()
	for ; field != "%%"; field = l.next() {
		t.Decls = append(t.Decls, l.decl(field))
	}
	for field = l.next(); field != ""; field = l.next() {
		t.Rules = append(t.Rules, l.rule(field))
	}
	return t, l.marked
}

func (l *laid) decl(field string) api.Decl {
	kind, marked := strings.CutPrefix(field, "@")
	d := api.Decl{Kind: strings.TrimPrefix(kind, "%"), At: l.at(marked)}
	for field = l.next(); field != ";"; field = l.next() {
		if of, is := strings.CutPrefix(field, "<"); is {
			d.Type = strings.TrimSuffix(of, ">")
		} else {
			d.Names = append(d.Names, strings.Trim(field, "'"))
		}
	}
	return d
}

// named is a name, and what stands in ( ) behind it.
func named(field string) (string, []string) {
	name, row, has := strings.Cut(field, "(")
	if !has {
		return strings.Trim(name, "'"), nil
	}
	return strings.Trim(name, "'"), strings.Split(strings.TrimSuffix(row, ")"), ",")
}

func (l *laid) rule(field string) api.Rule {
	name, marked := strings.CutPrefix(field, "@")
	r := api.Rule{At: l.at(marked)}
	r.Name, r.Params = named(name)
	for field = l.next(); field != ";"; {
		var a api.Alt
		a, field = l.alt()
		r.Alts = append(r.Alts, a)
	}
	return r
}

func (l *laid) alt() (api.Alt, string) {
	a := api.Alt{At: l.at(false)}
	field := l.next()
	for ; field != "|" && field != ";"; field = l.next() {
		action, none := strings.CutPrefix(field, "!")
		switch {
		case field == "@":
			l.marked = a.At
		case field == "%prec":
			a.Prec = l.next()
		case strings.HasPrefix(action, "{"):
			end := strings.LastIndex(action, "}")
			a.Has, a.Action = !none, action[1:end]
			a.Where, _ = strconv.Atoi(action[end+1:])
		default:
			a.Words = append(a.Words, l.word(field))
		}
	}
	return a, field
}

func (l *laid) word(field string) api.Word {
	name, marked := strings.CutPrefix(field, "@")
	w := api.Word{At: l.at(marked)}
	var args []string
	w.Name, args = named(name)
	for _, arg := range args {
		w.Args = append(w.Args, api.Word{Name: arg, At: l.at(false)})
	}
	return w
}

// list is a copy of another one, with so much room behind it, in which something lies.
func list[T any](from []T, room int, other T, one func(x T) T) []T {
	if len(from)+room == 0 {
		return nil
	}
	out := make([]T, 0, len(from)+room)
	for _, x := range from {
		out = append(out, one(x))
	}
	for range room {
		out = append(out, other)
	}
	return out[:len(from)]
}

// copier copies texts and grammars with room behind their lists, and strings and places of its own.
type copier struct {
	room  int
	say   func(s string) string
	place func(at int) int
}

func (c copier) names(names []string) []string { return list(names, c.room, "?", c.say) }

func (c copier) decl(d api.Decl) api.Decl {
	return api.Decl{Kind: c.say(d.Kind), Type: c.say(d.Type), Names: c.names(d.Names), At: c.place(d.At)}
}

func (c copier) rule(r api.Rule) api.Rule {
	return api.Rule{Name: c.say(r.Name), Params: c.names(r.Params), Alts: list(r.Alts, c.room, api.Alt{Prec: "?"}, c.alt), At: c.place(r.At)}
}

func (c copier) alt(a api.Alt) api.Alt {
	return api.Alt{Words: c.words(a.Words), Prec: c.say(a.Prec), Has: a.Has, Action: c.say(a.Action), Where: a.Where, At: c.place(a.At)}
}

func (c copier) words(words []api.Word) []api.Word {
	return list(words, c.room, api.Word{Name: "?"}, c.word)
}

func (c copier) word(w api.Word) api.Word {
	return api.Word{Name: c.say(w.Name), Args: c.words(w.Args), At: c.place(w.At)}
}

func (c copier) text(t api.Text) api.Text {
	return api.Text{Decls: list(t.Decls, c.room, api.Decl{Kind: "?"}, c.decl), Rules: list(t.Rules, c.room, api.Rule{Name: "?"}, c.rule)}
}

func (c copier) symbol(s api.Symbol) api.Symbol {
	return api.Symbol{Name: c.say(s.Name), Type: c.say(s.Type), Level: s.Level, Assoc: s.Assoc}
}

func (c copier) prod(p api.Prod) api.Prod {
	return api.Prod{Left: p.Left, Right: list(p.Right, c.room, -9, func(n int) int { return n }), Prec: p.Prec, Has: p.Has, Action: c.say(p.Action), Where: p.Where}
}

func (c copier) grammar(g api.Grammar) api.Grammar {
	return api.Grammar{Terms: g.Terms, Symbols: list(g.Symbols, c.room, api.Symbol{Name: "?"}, c.symbol), Prods: list(g.Prods, c.room, api.Prod{Left: -9}, c.prod)}
}

func same(s string) string { return s }

func there(at int) int { return at }

// plain copies with lists of nothing that are nil, roomy with room behind all lists.
var plain, roomy = copier{0, same, there}, copier{2, same, there}

// shown is a grammar as a line: its symbols, those of the nonterminals behind a comma; and its productions.
func shown(g api.Grammar) string {
	var b strings.Builder
	for i, s := range g.Symbols {
		if i == g.Terms {
			b.WriteString(", ")
		} else if i > 0 {
			b.WriteString(" ")
		}
		b.WriteString(shownSymbol(s))
	}
	for _, p := range g.Prods {
		b.WriteString("; " + strconv.Itoa(p.Left) + ":")
		for _, n := range p.Right {
			b.WriteString(" " + strconv.Itoa(n))
		}
		if p.Prec != -1 {
			b.WriteString(" =" + strconv.Itoa(p.Prec))
		}
		if p.Has || p.Action != "" || p.Where != 0 {
			b.WriteString(map[bool]string{true: " ", false: " !"}[p.Has] + "{" + p.Action + "}" + strconv.Itoa(p.Where))
		}
	}
	return b.String()
}

func shownSymbol(s api.Symbol) string {
	name := s.Name
	if s.Type != "" {
		name += "<" + s.Type + ">"
	}
	if s.Level != 0 || s.Assoc != api.AssocNone {
		name += "." + strconv.Itoa(s.Level) + map[api.Assoc]string{api.AssocNone: "", api.AssocLeft: "l", api.AssocRight: "r", api.AssocNon: "n"}[s.Assoc]
	}
	return name
}

func short(s string) string {
	if len(s) > 600 {
		return s[:600] + ".."
	}
	return s
}

// shownText tells a text short, for a failure.
func shownText(t api.Text) string {
	var b strings.Builder
	for _, d := range t.Decls {
		b.WriteString("%" + d.Kind + " <" + d.Type + "> " + strings.Join(d.Names, " ") + "; ")
	}
	for _, r := range t.Rules {
		b.WriteString("%% " + r.Name + "(" + strings.Join(r.Params, ",") + ")")
		for _, a := range r.Alts {
			b.WriteString(" |")
			for _, w := range a.Words {
				b.WriteString(" " + w.Name)
			}
			b.WriteString(" %prec " + a.Prec)
		}
	}
	return short(strconv.QuoteToASCII(b.String()))
}

// answers asks twice, of copies with room behind their lists and without; all answers must be this one, and the text must stay as it was.
func answers(t *testing.T, x api.Text, want api.Grammar, fault api.Fault) {
	t.Helper()
	for _, form := range []api.Text{x, plain.text(x), roomy.text(x)} {
		kept := cloned(form)
		for range 2 {
			got, f := symbols.Make(form)
			if f != fault || !reflect.DeepEqual(plain.grammar(got), plain.grammar(want)) {
				t.Errorf("%v %s, not %v %s, of %s", f, short(shown(got)), fault, short(shown(want)), shownText(x))
				return
			}
			if f.Err != api.OK && (got.Symbols != nil || got.Prods != nil) {
				t.Errorf("beside %v stands a grammar of %s", f, shownText(x))
			}
		}
		if !alike(form, kept) {
			t.Errorf("%s was changed", shownText(x))
		}
	}
}

// byTheBook holds a text, and what is made of it, against the document's words, and tells what these say.
func byTheBook(t *testing.T, x api.Text) (api.Grammar, api.Fault) {
	t.Helper()
	want, fault := bookMake(x)
	answers(t, x, want, fault)
	if fault.Err == api.OK {
		isRight(t, want, bookRight(want))
	}
	return want, fault
}

// isRight asks of copies with room behind their lists and without, which must stay as they were.
func isRight(t *testing.T, g api.Grammar, want bool) {
	t.Helper()
	for _, form := range []api.Grammar{g, plain.grammar(g), roomy.grammar(g)} {
		kept := clonedGrammar(form)
		for range 2 {
			if symbols.Right(form) != want {
				t.Errorf("not %v: %s", want, short(shown(g)))
				return
			}
		}
		if !alikeGrammars(form, kept) {
			t.Errorf("%s was changed", short(shown(g)))
		}
	}
}

// isTold asks what is told of a text, as a line.
func isTold(t *testing.T, s, want string) {
	t.Helper()
	x, _ := layOut(s)
	told, fault := byTheBook(t, x)
	if got := shown(told); fault != (api.Fault{}) || got != want {
		t.Errorf("%s: %v %s, not %s", short(s), fault, short(got), short(want))
	}
}

// isFault asks for a fault at what is marked, or at 0, wherever that is.
func isFault(t *testing.T, s string, err api.Errno) {
	t.Helper()
	x, at := layOut(s)
	for _, place := range []func(at int) int{there, func(at int) int { return -at }, func(at int) int { return 1<<63 - 1 - at }} {
		moved := copier{0, same, func(at int) int { return place(at) }}.text(x)
		want := api.Fault{Err: err}
		if at != 0 {
			want.At = place(at)
		}
		if _, fault := byTheBook(t, moved); fault != want {
			t.Errorf("%s: %v, not %v", short(s), fault, want)
		}
	}
}
