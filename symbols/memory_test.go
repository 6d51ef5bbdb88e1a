package symbols_test

import (
	"reflect"
	"runtime"
	"strings"
	"testing"
	"unsafe"

	"gristmill/api"
	"gristmill/symbols"
)

// clone copies a list with the room behind it.
func clone[T any](from []T, one func(x T) T) []T {
	if from == nil {
		return nil
	}
	out := make([]T, cap(from))
	for i, x := range from[:cap(from)] {
		out[i] = one(x)
	}
	return out[:len(from)]
}

func cloned(t api.Text) api.Text {
	return api.Text{
		Decls: clone(t.Decls, func(d api.Decl) api.Decl {
			d.Names = clone(d.Names, same)
			return d
		}),
		Rules: clone(t.Rules, func(r api.Rule) api.Rule {
			r.Params = clone(r.Params, same)
			r.Alts = clone(r.Alts, func(a api.Alt) api.Alt {
				a.Words = clonedWords(a.Words)
				return a
			})
			return r
		}),
	}
}

func clonedWords(words []api.Word) []api.Word {
	return clone(words, func(w api.Word) api.Word {
		w.Args = clonedWords(w.Args)
		return w
	})
}

func clonedGrammar(g api.Grammar) api.Grammar {
	g.Symbols = clone(g.Symbols, func(s api.Symbol) api.Symbol { return s })
	g.Prods = clone(g.Prods, func(p api.Prod) api.Prod {
		p.Right = clone(p.Right, there)
		return p
	})
	return g
}

// whole shows the room behind all lists, too.
func whole(t api.Text) api.Text {
	t = cloned(t)
	t.Decls = t.Decls[:cap(t.Decls)]
	for i := range t.Decls {
		t.Decls[i].Names = t.Decls[i].Names[:cap(t.Decls[i].Names)]
	}
	t.Rules = t.Rules[:cap(t.Rules)]
	for i := range t.Rules {
		r := &t.Rules[i]
		r.Params = r.Params[:cap(r.Params)]
		r.Alts = r.Alts[:cap(r.Alts)]
		for n := range r.Alts {
			r.Alts[n].Words = wholeWords(r.Alts[n].Words)
		}
	}
	return t
}

func wholeWords(words []api.Word) []api.Word {
	words = words[:cap(words)]
	for i := range words {
		words[i].Args = wholeWords(words[i].Args)
	}
	return words
}

func wholeGrammar(g api.Grammar) api.Grammar {
	g = clonedGrammar(g)
	g.Symbols = g.Symbols[:cap(g.Symbols)]
	g.Prods = g.Prods[:cap(g.Prods)]
	for i := range g.Prods {
		g.Prods[i].Right = g.Prods[i].Right[:cap(g.Prods[i].Right)]
	}
	return g
}

// alike holds texts against each other, as they are and with the room behind their lists.
func alike(a, b api.Text) bool {
	return reflect.DeepEqual(a, b) && reflect.DeepEqual(whole(a), whole(b))
}

func alikeGrammars(a, b api.Grammar) bool {
	return reflect.DeepEqual(a, b) && reflect.DeepEqual(wholeGrammar(a), wholeGrammar(b))
}

// TestChangesAreSeen: what texts and grammars are held by tells each change of one, room behind lists and all.
func TestChangesAreSeen(t *testing.T) {
	x, _ := layOut("%token <int> A B ; %% s(X) : A(C,D) {x}7 | ;")
	for i, change := range []func(x api.Text){
		func(x api.Text) {},
		func(x api.Text) { x.Decls[0].Kind = "left" },
		func(x api.Text) { x.Decls[0].At++ },
		func(x api.Text) { x.Decls[0].Names[0] = "B" },
		func(x api.Text) { x.Decls[:2][1].Kind = "B" },
		func(x api.Text) { x.Decls[0].Names[:3][2] = "B" },
		func(x api.Text) { x.Rules[0].Name = "f" },
		func(x api.Text) { x.Rules[0].Params[:2][1] = "Y" },
		func(x api.Text) { x.Rules[0].Alts = x.Rules[0].Alts[:1] },
		func(x api.Text) { x.Rules[0].Alts[:3][2].Prec = "P" },
		func(x api.Text) { x.Rules[0].Alts[0].Action = "" },
		func(x api.Text) { x.Rules[0].Alts[0].Words[0].At++ },
		func(x api.Text) { x.Rules[0].Alts[0].Words[:2][1].Name = "b" },
		func(x api.Text) { x.Rules[0].Alts[0].Words[0].Args[0].Name = "c" },
		func(x api.Text) { x.Rules[0].Alts[0].Words[0].Args[:3][2].Name = "c" },
	} {
		form := roomy.text(x)
		kept := cloned(form)
		if change(form); alike(form, kept) != (i == 0) {
			t.Errorf("change %d is not seen", i)
		}
	}
	g := made(t, "%token <int> A B ; %% s : A B {x}7 | ;")
	for i, change := range []func(g *api.Grammar){
		func(*api.Grammar) {},
		func(g *api.Grammar) { g.Terms++ },
		func(g *api.Grammar) { g.Symbols[1].Level = 1 },
		func(g *api.Grammar) { g.Symbols[:6][5].Name = "" },
		func(g *api.Grammar) { g.Prods = g.Prods[:2] },
		func(g *api.Grammar) { g.Prods[1].Right[1] = 1 },
		func(g *api.Grammar) { g.Prods[1].Right[:3][2] = 1 },
		func(g *api.Grammar) { g.Prods[:4][3].Left = 0 },
		func(g *api.Grammar) { g.Prods[1].Action = "" },
	} {
		form := roomy.grammar(g)
		kept := clonedGrammar(form)
		if change(&form); alikeGrammars(form, kept) != (i == 0) {
			t.Errorf("change %d of a grammar is not seen", i)
		}
	}
}

// made is the grammar of a text that has no fault.
func made(t *testing.T, s string) api.Grammar {
	t.Helper()
	x, _ := layOut(s)
	g, fault := symbols.Make(x)
	if fault.Err != api.OK {
		t.Fatal(s, fault)
	}
	return g
}

// written is a string that may be written over.
func written(s string) string {
	if s == "" {
		return s
	}
	b := []byte(s)
	return unsafe.String(&b[0], len(b))
}

func overwrite(s string) string {
	bytes := unsafe.Slice(unsafe.StringData(s), len(s))
	for i := range bytes {
		bytes[i] = '?'
	}
	return s
}

// spoil writes over all that a text has: its strings' bytes, its lists, and the room behind these.
func spoil(t api.Text) {
	copier{0, overwrite, there}.text(t)
	for _, r := range t.Rules {
		for _, a := range r.Alts {
			fill(a.Words, api.Word{})
		}
		fill(r.Alts, api.Alt{})
	}
	for _, d := range t.Decls {
		fill(d.Names, "")
	}
	fill(t.Rules, api.Rule{})
	fill(t.Decls, api.Decl{})
}

func fill[T any](list []T, with T) {
	list = list[:cap(list)]
	for i := range list {
		list[i] = with
	}
}

func memorable() []string {
	return []string{
		"%% s ;",
		"%token <int> A B ; %left A ; %% s : A s B %prec A {a}3 | ;",
		"%token A <bool> ; %left + ; %right * / ; %type <float64> e list ; %start list ; %% e : e + e {$$}5 | e * e {$$}9 | A | %prec / ; list : | list e {$$}0 ; int : A !{x}4 ;",
	}
}

// TestWhatIsToldIsNewMemory writes over all of a text that was told of, and then over what was told once.
func TestWhatIsToldIsNewMemory(t *testing.T) {
	for _, s := range memorable() {
		x, _ := layOut(s)
		want, fault := bookMake(x)
		if fault.Err != api.OK {
			t.Fatal(fault)
		}
		given := copier{1, written, there}.text(x)
		first, _ := symbols.Make(given)
		second, _ := symbols.Make(given)
		spoil(given)
		if !reflect.DeepEqual(plain.grammar(first), want) {
			t.Errorf("%s has memory of what was given", shown(first))
		}
		for _, write := range lists(first) {
			write()
		}
		third, _ := symbols.Make(x)
		if !reflect.DeepEqual(plain.grammar(second), want) || !reflect.DeepEqual(plain.grammar(third), want) {
			t.Errorf("%s, %s, not %s", shown(second), shown(third), shown(want))
		}
	}
}

// TestNoTwoListsShareMemory writes over one list after the other: no other one may change.
func TestNoTwoListsShareMemory(t *testing.T) {
	for _, s := range memorable() {
		for at := range lists(made(t, s)) {
			got := made(t, s)
			want := plain.grammar(got)
			lists(got)[at]()
			lists(want)[at]()
			if !reflect.DeepEqual(plain.grammar(got), want) {
				t.Errorf("list %d of %s shares memory", at, s)
			}
		}
	}
}

// lists are ways to write over a grammar's lists, with the room behind them.
func lists(g api.Grammar) []func() {
	var out []func()
	for _, p := range g.Prods {
		if len(p.Right) > 0 {
			out = append(out, func() { fill(p.Right, -7) })
		}
	}
	return append(out, func() { fill(g.Prods, api.Prod{Left: -7}) }, func() { fill(g.Symbols, api.Symbol{Name: "?"}) })
}

// TestAlikeEachTime: R4; no call leaves anything to the next one.
func TestAlikeEachTime(t *testing.T) {
	all := append(memorable(), "%%", "%% s : s(s) ;", "%token A A ; %% s : ;", "%left A ; %% A : ;", "%type <int> t ; %% s : ;", "%% s : A ;")
	for _, s := range all {
		for _, other := range all {
			for _, asked := range []string{other, s, s, other} {
				x, _ := layOut(asked)
				want, fault := bookMake(x)
				got, f := symbols.Make(x)
				if f != fault || !reflect.DeepEqual(plain.grammar(got), plain.grammar(want)) {
					t.Errorf("%v %s, not %v %s", f, shown(got), fault, shown(want))
				}
			}
		}
	}
}

// TestOneActionManyTimes: R1; what is told takes no more memory than what was given, though many actions may be one.
func TestOneActionManyTimes(t *testing.T) {
	const long = 1 << 20
	x := ruled(127)
	action := strings.Repeat("a", long)
	for i := range x.Rules[0].Alts {
		x.Rules[0].Alts[i].Has, x.Rules[0].Alts[i].Action = true, action
	}
	var before, after runtime.MemStats
	runtime.ReadMemStats(&before)
	g, fault := symbols.Make(x)
	runtime.ReadMemStats(&after)
	if took := after.TotalAlloc - before.TotalAlloc; took > 8*long {
		t.Errorf("%d bytes were taken", took)
	}
	if fault != (api.Fault{}) || len(g.Prods) != 128 || g.Prods[1].Action != action || g.Prods[127].Action != action {
		t.Error(fault, len(g.Prods))
	}
}
