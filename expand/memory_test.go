package expand_test

import (
	"reflect"
	"strings"
	"testing"
	"unsafe"

	"gristmill/api"
	"gristmill/expand"
)

// clone copies a list with the room behind it.
func clone[T any](from []T, one func(x T) T) []T {
	if from == nil {
		return nil
	}
	out := make([]T, cap(from))
	for i, x := range from[:cap(from)] {
		out[i] = one(x)
	}
	return out[:len(from)]
}

func cloned(t api.Text) api.Text {
	return api.Text{
		Decls: clone(t.Decls, func(d api.Decl) api.Decl {
			d.Names = clone(d.Names, same)
			return d
		}),
		Rules: clone(t.Rules, func(r api.Rule) api.Rule {
			r.Params = clone(r.Params, same)
			r.Alts = clone(r.Alts, func(a api.Alt) api.Alt {
				a.Words = clonedWords(a.Words)
				return a
			})
			return r
		}),
	}
}

func clonedWords(words []api.Word) []api.Word {
	return clone(words, func(w api.Word) api.Word {
		w.Args = clonedWords(w.Args)
		return w
	})
}

// whole shows the room behind all lists, too.
func whole(t api.Text) api.Text {
	t = cloned(t)
	t.Decls = t.Decls[:cap(t.Decls)]
	for i := range t.Decls {
		t.Decls[i].Names = t.Decls[i].Names[:cap(t.Decls[i].Names)]
	}
	t.Rules = t.Rules[:cap(t.Rules)]
	for i := range t.Rules {
		r := &t.Rules[i]
		r.Params = r.Params[:cap(r.Params)]
		r.Alts = r.Alts[:cap(r.Alts)]
		for n := range r.Alts {
			r.Alts[n].Words = wholeWords(r.Alts[n].Words)
		}
	}
	return t
}

func wholeWords(words []api.Word) []api.Word {
	words = words[:cap(words)]
	for i := range words {
		words[i].Args = wholeWords(words[i].Args)
	}
	return words
}

// alike holds texts against each other, as they are and with the room behind their lists.
func alike(a, b api.Text) bool {
	return reflect.DeepEqual(a, b) && reflect.DeepEqual(whole(a), whole(b))
}

// TestChangesAreSeen: what texts are held by tells each change of one, room behind lists and all.
func TestChangesAreSeen(t *testing.T) {
	for i, change := range []func(x api.Text){
		func(x api.Text) {},
		func(x api.Text) { x.Decls[0].Kind = "left" },
		func(x api.Text) { x.Decls[0].At++ },
		func(x api.Text) { x.Decls[0].Names[0] = "B" },
		func(x api.Text) { x.Decls[:2][1].Kind = "B" },
		func(x api.Text) { x.Decls[0].Names[:3][2] = "B" },
		func(x api.Text) { x.Rules[0].Name = "f" },
		func(x api.Text) { x.Rules[0].Params[0] = "Y" },
		func(x api.Text) { x.Rules[0].Params[:2][1] = "Y" },
		func(x api.Text) { x.Rules[0].Alts = x.Rules[0].Alts[:1] },
		func(x api.Text) { x.Rules[0].Alts[:3][2].Prec = "P" },
		func(x api.Text) { x.Rules[0].Alts[0].Action = "" },
		func(x api.Text) { x.Rules[0].Alts[0].Words[0].At++ },
		func(x api.Text) { x.Rules[0].Alts[0].Words[:2][1].Name = "b" },
		func(x api.Text) { x.Rules[0].Alts[0].Words[0].Args[0].Name = "c" },
		func(x api.Text) { x.Rules[0].Alts[0].Words[0].Args[:2][1].Name = "c" },
		func(x api.Text) { x.Rules[0].Alts[0].Words[0].Args = nil },
	} {
		x := roomy(api.Text{
			Decls: []api.Decl{{Kind: "token", Type: "int", Names: []string{"A", "B"}}},
			Rules: []api.Rule{template(rule("e", api.Alt{Words: []api.Word{word("a", word("b"))}, Has: true, Action: "c"}, alt()), "X")},
		})
		kept := cloned(x)
		if change(x); alike(x, kept) != (i == 0) {
			t.Errorf("change %d is not seen", i)
		}
	}
}

// written is a string that may be written over.
func written(s string) string {
	if s == "" {
		return s
	}
	b := []byte(s)
	return unsafe.String(&b[0], len(b))
}

func overwrite(s string) {
	bytes := unsafe.Slice(unsafe.StringData(s), len(s))
	for i := range bytes {
		bytes[i] = '?'
	}
}

func overwritten(s string) string {
	overwrite(s)
	return s
}

// spoil writes over all that a text has: its strings' bytes, its lists, and the room behind these.
func spoil(t api.Text) {
	copier{0, overwritten}.text(t)
	for _, r := range t.Rules {
		for _, a := range r.Alts {
			spoilWords(a.Words)
		}
		clear(r.Alts[:cap(r.Alts)])
		clear(r.Params[:cap(r.Params)])
	}
	for _, d := range t.Decls {
		clear(d.Names[:cap(d.Names)])
	}
	clear(t.Rules[:cap(t.Rules)])
	clear(t.Decls[:cap(t.Decls)])
}

func spoilWords(words []api.Word) {
	for _, w := range words {
		spoilWords(w.Args)
	}
	clear(words[:cap(words)])
}

func memorable(t *testing.T) []api.Text {
	var all []api.Text
	for _, s := range []string{
		"%%",
		"%% s: ;",
		"%token <int> A B; %left A; %% s: A s B %prec A { a } | ;",
		"%type <int> list s list opt none; %left list; %% list(X): X | list(X) B X %prec B { $$ = $1 }; s: list(opt(A)) list(A) X | { a }; opt(Y): Y | ; none(X): X;",
		"%% s: p(A, q(A), p(A, A, A)) A; p(X, Y, Z): X Y Z p(A, A, A) | q(Y) { p }; q(p): p p q(A);",
	} {
		x, _ := source(t, s)
		all = append(all, x)
	}
	return all
}

// TestWhatIsToldIsNewMemory writes over all of a text that was told of, and then over what was told once.
func TestWhatIsToldIsNewMemory(t *testing.T) {
	for _, x := range memorable(t) {
		want, fault := bookFlat(x)
		if fault.Err != api.OK {
			t.Fatal(fault)
		}
		given := copier{1, written}.text(x)
		first, _ := expand.Flat(given)
		second, _ := expand.Flat(given)
		spoil(given)
		if !reflect.DeepEqual(plain(first), plain(want)) {
			t.Errorf("%s has memory of what was given", short(shown(first)))
		}
		spoil(first)
		third, _ := expand.Flat(x)
		if !reflect.DeepEqual(plain(second), plain(want)) || !reflect.DeepEqual(plain(third), plain(want)) {
			t.Errorf("%s, %s, not %s", short(shown(second)), short(shown(third)), short(shown(want)))
		}
	}
}

// TestNoTwoListsShareMemory writes over one list after the other: no other one may change.
func TestNoTwoListsShareMemory(t *testing.T) {
	for _, x := range memorable(t) {
		told, _ := bookFlat(x)
		for at := range lists(told) {
			got, _ := expand.Flat(x)
			want := plain(got)
			lists(got)[at]()
			lists(want)[at]()
			if !reflect.DeepEqual(plain(got), plain(want)) {
				t.Errorf("list %d of %s shares memory", at, short(shown(told)))
			}
		}
	}
}

// lists are ways to write over a text's lists of names and words, with the room behind them.
func lists(t api.Text) []func() {
	var out []func()
	for _, d := range t.Decls {
		out = append(out, func() { fill(d.Names, "?") })
	}
	for _, r := range t.Rules {
		for _, a := range r.Alts {
			out = append(out, func() { fill(a.Words, word("?")) })
		}
	}
	for _, r := range t.Rules {
		out = append(out, func() { fill(r.Alts, alt(word("?"))) })
	}
	return append(out, func() { fill(t.Rules, rule("?")) }, func() { fill(t.Decls, api.Decl{Kind: "?"}) })
}

func fill[T any](list []T, with T) {
	list = list[:cap(list)]
	for i := range list {
		list[i] = with
	}
}

// TestNamesAreNewMemory: also of a word without Args.
func TestNamesAreNewMemory(t *testing.T) {
	for _, w := range []api.Word{word("a"), word("ab", word("c")), word("f", word("g", word("A"), word("B")), word("h"))} {
		want := bookName(w)
		given := copier{1, written}.word(w)
		first, second := expand.Name(given), expand.Name(given)
		copier{0, overwritten}.word(given)
		if first != want {
			t.Errorf("%s has memory of what was given", short(first))
		}
		overwrite(first)
		if third := expand.Name(w); second != want || third != want {
			t.Errorf("%s, %s, not %s", short(second), short(third), want)
		}
	}
}

// TestAlikeEachTime: R4; no call leaves anything to the next one.
func TestAlikeEachTime(t *testing.T) {
	all := memorable(t)
	many := strings.Repeat("A,", 600) + "A"
	for _, s := range []string{"%% s: ; s: ;", "%% s: s(A);", "%% s: f(A); f(X): f(f(X));", "%% s: f(" + many + "); f(X): ;"} {
		x, _ := source(t, s)
		all = append(all, x)
	}
	for _, x := range all {
		for _, other := range all {
			for _, asked := range []api.Text{other, x, x, other} {
				want, fault := bookFlat(asked)
				got, f := expand.Flat(asked)
				if f != fault || !reflect.DeepEqual(plain(got), plain(want)) {
					t.Errorf("%v %s, not %v %s", f, short(shown(got)), fault, short(shown(want)))
				}
			}
		}
	}
}
