package read_test

import (
	"math/rand"
	"reflect"
	"slices"
	"strings"
	"testing"

	"gristmill/api"
	"gristmill/read"
)

// maker makes up a text, and the tokens that say it; its places are these tokens' numbers, till they are known.
type maker struct {
	*rand.Rand
	tokens []string
}

func (m *maker) put(token string) int {
	m.tokens = append(m.tokens, token)
	return len(m.tokens) - 1
}

func (m *maker) one(of ...string) string { return of[m.Intn(len(of))] }

func (m *maker) name() string {
	name := m.one("a", "A", "_", "x1", "list", "NUM", "token", "prec", "left", "type", "start", "int", "e", strings.Repeat("n", 40))
	m.put(name)
	return name
}

// names are one or more, with a sign between, if there is one.
func (m *maker) names(between string) []string {
	names := []string{m.name()}
	for m.Intn(3) > 0 {
		if between != "" {
			m.put(between)
		}
		names = append(names, m.name())
	}
	return names
}

func (m *maker) text(most int) api.Text {
	var t api.Text
	for range m.Intn(most + 1) {
		t.Decls = append(t.Decls, m.decl())
	}
	m.put("%%")
	for range m.Intn(most + 1) {
		t.Rules = append(t.Rules, m.rule())
	}
	return t
}

func (m *maker) decl() api.Decl {
	d := api.Decl{Kind: m.one("token", "type", "left", "right", "nonassoc", "start")}
	d.At = m.put("%" + d.Kind)
	if d.Kind == "type" || d.Kind == "token" && m.Intn(2) == 0 {
		m.put("<")
		d.Type = m.name()
		m.put(">")
	}
	d.Names = m.names("")
	m.put(";")
	return d
}

func (m *maker) rule() api.Rule {
	r := api.Rule{At: len(m.tokens), Name: m.name()}
	if m.Intn(2) == 0 {
		m.put("(")
		r.Params = m.names(",")
		m.put(")")
	}
	m.put(":")
	r.Alts = []api.Alt{m.alt()}
	for m.Intn(2) == 0 {
		m.put("|")
		r.Alts = append(r.Alts, m.alt())
	}
	m.put(";")
	return r
}

func (m *maker) alt() api.Alt {
	a := api.Alt{At: len(m.tokens)}
	for m.Intn(3) > 0 {
		a.Words = append(a.Words, m.word(60))
	}
	if m.Intn(3) == 0 {
		m.put("%prec")
		a.Prec = m.name()
	}
	if m.Intn(3) == 0 {
		a.Has, a.Action = true, m.one("", " ", ";", "%%", "prec", "a", " $$ = $1 ", "\n{ f(\"}\") } // }\n", "//\n", "\xff")
		a.Where = m.put("{" + a.Action + "}")
	}
	return a
}

// word is made with how many words may still stand in one another.
func (m *maker) word(left int) api.Word {
	w := api.Word{At: len(m.tokens), Name: m.name()}
	if left == 0 || m.Intn(5) < 2 {
		return w
	}
	m.put("(")
	w.Args = []api.Word{m.word(left - 1)}
	for m.Intn(3) == 0 {
		m.put(",")
		w.Args = append(w.Args, m.word(left-1))
	}
	m.put(")")
	return w
}

// joined is a source of tokens, and the place of each; the end is the last one.
func joined(tokens []string, between func(a, b string) string) (string, []int) {
	var s strings.Builder
	var places []int
	last := ""
	for _, token := range tokens {
		s.WriteString(between(last, token))
		places = append(places, s.Len())
		s.WriteString(token)
		last = token
	}
	s.WriteString(between(last, ""))
	return s.String(), append(places, s.Len())
}

// tight puts blanks only where two tokens would be one without.
func tight(a, b string) string {
	isPart := func(c byte) bool {
		return c == '_' || '0' <= c && c <= '9' || 'A' <= c && c <= 'Z' || 'a' <= c && c <= 'z'
	}
	if a != "" && b != "" && isPart(a[len(a)-1]) && isPart(b[0]) {
		return " "
	}
	return ""
}

// placed is a made-up text with places in a source for its tokens' numbers.
func placed(t api.Text, places []int) api.Text {
	var out api.Text
	for _, d := range t.Decls {
		d.At = places[d.At]
		out.Decls = append(out.Decls, d)
	}
	for _, r := range t.Rules {
		r.At = places[r.At]
		alts := slices.Clone(r.Alts)
		for i := range alts {
			alts[i].At = places[alts[i].At]
			alts[i].Words = placedWords(alts[i].Words, places)
			if alts[i].Has {
				alts[i].Where = places[alts[i].Where] + 1
			}
		}
		r.Alts = alts
		out.Rules = append(out.Rules, r)
	}
	return out
}

func placedWords(words []api.Word, places []int) []api.Word {
	var out []api.Word
	for _, w := range words {
		out = append(out, api.Word{Name: w.Name, Args: placedWords(w.Args, places), At: places[w.At]})
	}
	return out
}

// TestMadeUpTexts: blanks and comments make no difference but to places.
func TestMadeUpTexts(t *testing.T) {
	b := openBook()
	for seed := range 4000 {
		m := &maker{Rand: rand.New(rand.NewSource(int64(seed)))}
		text := m.text(seed % 6)
		for _, between := range []func(a, b string) string{
			tight,
			func(string, string) string { return " " },
			func(string, string) string { return "\n\n" },
			func(string, string) string { return m.one(gaps()...) },
			func(string, string) string { return m.one(gaps()...) + m.one(gaps()...) },
			func(a, b string) string { return m.one(tight(a, b), m.one(gaps()...), "// {\n") },
		} {
			s, places := joined(m.tokens, between)
			want := placed(text, places)
			got, fault := read.Text(s)
			if fault != (api.Fault{}) || spell(got, fault) != spell(want, fault) || !reflect.DeepEqual(got, want) {
				t.Errorf("%s (%d bytes): %.400s; wanted %.400s", short(s), len(s), spell(got, fault), spell(want, api.Fault{}))
			}
		}
		if s, _ := joined(m.tokens, tight); seed%10 == 0 {
			byTheBook(t, b, s)
		}
	}
}

// TestMadeUpFaults: with anything between the tokens the same one is refused.
func TestMadeUpFaults(t *testing.T) {
	b, texts, deep := openBook(), 0, 0
	for seed := range 6000 {
		m := &maker{Rand: rand.New(rand.NewSource(int64(seed)))}
		m.text(seed % 5)
		i := m.Intn(len(m.tokens) + 1)
		j := min(len(m.tokens), i+m.Intn(3))
		more := others()[m.Intn(len(others()))]
		if m.Intn(8) == 0 {
			more = strings.Join(strings.Split(strings.Repeat("a(", 40+m.Intn(30)), ""), " ")
		}
		tokens := slices.Concat(m.tokens[:i], strings.Fields(more)[m.Intn(2):], m.tokens[j:])
		s, places := joined(tokens, func(string, string) string { return " " })
		_, first := read.Text(s)
		if byTheBook(t, b, s) {
			texts++
			continue
		}
		if first.Err == api.ErrDeep {
			deep++
		}
		token := slices.Index(places, first.At)
		s, places = joined(tokens, func(string, string) string { return m.one(gaps()...) })
		wants(t, s, spell(api.Text{}, api.Fault{Err: first.Err, At: places[token]}))
	}
	if texts < 100 || texts > 5000 || deep < 10 {
		t.Errorf("%d were texts after all, %d too deep", texts, deep)
	}
}

// TestMadeUpBytes has sources of anything.
func TestMadeUpBytes(t *testing.T) {
	b, m := openBook(), &maker{Rand: rand.New(rand.NewSource(3))}
	pieces := slices.Concat(others(), strings.Split("a~a~a~b~ ~ ~\n~//~// a\n~(~)~,~;~;~;~;~|~|~|~:~%%~%left A;~e:~e:;~a(b)~f(X):~%prec P~{}~=~\"~{~}~\\~%foo~\xff~1", "~"))
	texts := 0
	for range 50000 {
		var s strings.Builder
		if m.Intn(2) == 0 {
			s.WriteString(m.one("%%", "%left A;", "%%e:", "%%e(X):a", "%token<int>A;%%e:a(b)"))
		}
		for range m.Intn(9) {
			s.WriteString(m.one(pieces...))
		}
		if byTheBook(t, b, s.String()) {
			texts++
		}
	}
	for range 20000 {
		s := make([]byte, m.Intn(10))
		for i := range s {
			s[i] = byte(m.Intn(256))
		}
		byTheBook(t, b, string(s))
		byTheBook(t, b, "%%e:{"+string(s)+"}")
	}
	if texts < 1000 {
		t.Errorf("only %d of them are texts", texts)
	}
}
