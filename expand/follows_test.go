package expand_test

import (
	"math/rand"
	"reflect"
	"slices"
	"strings"
	"testing"

	"gristmill/api"
	"gristmill/expand"
)

// maker makes texts up. Most of its words fit the rules that it knows; one of so many is any.
type maker struct {
	*rand.Rand
	rules []api.Rule
	spoil int
}

func (m *maker) one(of ...string) string { return of[m.Intn(len(of))] }

func (m *maker) place() int { return m.Intn(1000) }

// text has rules of a few names, of which some are templates; now and then one stands twice.
func (m *maker) text() api.Text {
	m.rules = nil
	for _, name := range []string{"s", "t", "f", "g", "p"} {
		if m.Intn(8) > 0 {
			m.rules = append(m.rules, api.Rule{Name: name, At: m.place(), Params: m.params(name)})
		}
	}
	m.Shuffle(len(m.rules), func(i, j int) { m.rules[i], m.rules[j] = m.rules[j], m.rules[i] })
	for i := range m.rules {
		for range m.Intn(4) {
			m.rules[i].Alts = append(m.rules[i].Alts, m.alt(m.rules[i].Params))
		}
	}
	t := api.Text{Rules: m.rules}
	if m.Intn(m.spoil) == 0 && len(t.Rules) > 0 {
		t.Rules = append(t.Rules, t.Rules[m.Intn(len(t.Rules))])
	}
	for range m.Intn(4) {
		t.Decls = append(t.Decls, m.decl())
	}
	return t
}

func (m *maker) params(of string) []string {
	switch of {
	case "f", "g":
		return []string{m.one("X", "Y", "f", "t", "A")}
	case "p":
		both := []string{"X", "Y", "f", "A"}
		if m.Intn(m.spoil) == 0 {
			both[1] = "X"
		}
		return both[:2+m.Intn(2)]
	}
	return nil
}

func (m *maker) alt(params []string) api.Alt {
	a := api.Alt{At: m.place()}
	for range m.Intn(4) {
		a.Words = append(a.Words, m.word(params, 1))
	}
	if m.Intn(3) == 0 {
		a.Prec = m.one("A", "X", "f")
	}
	if m.Intn(2) == 0 {
		a.Has, a.Action, a.Where = true, m.one("", "a", "X"), m.place()
	}
	return a
}

func (m *maker) word(params []string, deep int) api.Word {
	names := slices.Concat([]string{"A", "B", "s", "t", "f", "g", "p"}, params, params)
	w := api.Word{Name: m.one(names...), At: m.place()}
	many := 0
	at := slices.IndexFunc(m.rules, func(r api.Rule) bool { return r.Name == w.Name })
	if at >= 0 && !slices.Contains(params, w.Name) {
		many = len(m.rules[at].Params)
	}
	if m.Intn(8*m.spoil) == 0 {
		many = m.Intn(4)
	}
	if many > 0 && deep > 3 {
		w.Name, many = "A", 0
	}
	for range many {
		w.Args = append(w.Args, m.word(params, deep+m.Intn(4)))
	}
	return w
}

func (m *maker) decl() api.Decl {
	d := api.Decl{Kind: m.one("type", "type", "token", "left", "start"), Type: m.one("", "int"), At: m.place()}
	for range m.Intn(5) {
		d.Names = append(d.Names, m.one("s", "f", "g", "p", "A", "x"))
	}
	return d
}

// hasNoTemplates: P13.4.
func hasNoTemplates(t api.Text) bool {
	return !slices.ContainsFunc(t.Rules, func(r api.Rule) bool {
		return len(r.Params) > 0 || slices.ContainsFunc(r.Alts, func(a api.Alt) bool {
			return slices.ContainsFunc(a.Words, func(w api.Word) bool { return len(w.Args) > 0 })
		})
	})
}

// staysAsItIs: P13.4; also what was told once.
func staysAsItIs(t *testing.T, x api.Text) {
	t.Helper()
	got, fault := expand.Flat(x)
	if fault != (api.Fault{}) || !reflect.DeepEqual(plain(got), plain(x)) {
		t.Errorf("%v %s, not %s", fault, short(shown(got)), short(shown(x)))
	}
}

// TestMadeUpTexts holds texts against the document's words.
func TestMadeUpTexts(t *testing.T) {
	met := map[api.Errno]int{}
	most := 0
	m := &maker{Rand: rand.New(rand.NewSource(13))}
	for i := range 6000 {
		m.spoil = []int{2, 8, 1000}[i%3]
		x := m.text()
		told, fault := byTheBook(t, x)
		met[fault.Err]++
		if fault.Err != api.OK {
			continue
		}
		most = max(most, len(told.Rules))
		if got, _ := expand.Flat(x); !hasNoTemplates(got) {
			t.Errorf("%s has templates", short(shown(got)))
		}
		staysAsItIs(t, told)
	}
	for _, err := range []api.Errno{api.OK, api.ErrTwice, api.ErrParams, api.ErrDeep, api.ErrMany} {
		if met[err] < 5 {
			t.Errorf("%v: only %d", err, met[err])
		}
	}
	if most < 30 {
		t.Errorf("no more than %d rules", most)
	}
}

// TestTextsWithoutTemplates: P13.4; they stay as they are.
func TestTextsWithoutTemplates(t *testing.T) {
	for _, s := range []string{
		"%%",
		"%token A B; %% s: ;",
		"%token <int> A B; %type <int> s t; %left A; %right B; %nonassoc A; %start t; %% s: A s %prec A { a } | | {} ; t: s t { $$ = $1 } | none;",
		"%type <x> A s s x; %type <y> y; %% s: x y s | s;",
	} {
		x, _ := source(t, s)
		staysAsItIs(t, x)
		isTold(t, s, shown(x))
	}
	m := &maker{Rand: rand.New(rand.NewSource(4)), spoil: 1000}
	for range 2000 {
		x := m.text()
		for i := range x.Rules {
			x.Rules[i].Params = nil
			for _, a := range x.Rules[i].Alts {
				for n := range a.Words {
					a.Words[n].Args = nil
				}
			}
		}
		if _, fault := bookFlat(x); fault.Err == api.OK {
			staysAsItIs(t, x)
		}
	}
}

// TestShortTexts: all texts of a rule s of two words and a template f of two, of a few words each.
func TestShortTexts(t *testing.T) {
	words := func(params ...string) []api.Word {
		out := []api.Word{word("A"), word("s"), word("f"), word("X")}
		for _, w := range slices.Clone(out) {
			out = append(out, word("f", w), word("s", w), word("A", w), word("X", w))
		}
		return append(out, word("f", word("f", word("X"))), word("f", word("A"), word("A")))
	}
	place := 0
	next := func(w api.Word) api.Word {
		place++
		return at(place, w)
	}
	for _, a := range words() {
		for _, b := range words() {
			for _, c := range words() {
				place = 0
				f := template(rule("f", alt(next(c)), alt(next(b))), "X")
				byTheBook(t, ruled(f, rule("s", alt(next(a)), alt(next(word("f", next(a)))))))
			}
		}
	}
}

// TestNamesOfMadeUpWords: P13.3.
func TestNamesOfMadeUpWords(t *testing.T) {
	r := rand.New(rand.NewSource(5))
	var make func(deep int) api.Word
	make = func(deep int) api.Word {
		w := word(strings.Repeat("n", r.Intn(3)))
		for range r.Intn(4) * r.Intn(2) * min(deep, 1) {
			w.Args = append(w.Args, make(deep-1))
		}
		return w
	}
	for range 5000 {
		w := make(7)
		isNamed(t, w, bookName(w))
	}
}
