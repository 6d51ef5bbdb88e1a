package lex_test

import (
	"math/rand"
	"slices"
	"strings"
	"testing"

	"gristmill/api"
	"gristmill/lex"
)

// maker makes tokens up.
type maker struct{ *rand.Rand }

func (m maker) one(of ...string) string { return of[m.Intn(len(of))] }

// row is up to so many of what is made, one behind the other.
func (m maker) row(most int, made func() string) string {
	var s strings.Builder
	for range m.Intn(most + 1) {
		s.WriteString(made())
	}
	return s.String()
}

func (m maker) name() string {
	return m.one("a", "z", "A", "Z", "_") + m.row(m.Intn(40), func() string { return m.one("a", "b", "z", "A", "Z", "_", "0", "9") })
}

// inner is what stands between an action's braces; its braces, strings and comments are whole.
func (m maker) inner(deep int) string {
	return m.row(5, func() string {
		switch m.Intn(6) {
		case 0:
			return "\"" + m.row(4, func() string {
				return m.one("a", "{", "}", "//", "'", "\\\"", "\\\\", "\\\n", "\\n", "\r", "\xff", "%")
			}) + "\""
		case 1:
			return "//" + m.row(4, func() string { return m.one("a", "{", "}", "\"", "\\", "/", "\r", "\xff", "%") }) + "\n"
		case 2:
			if deep > 0 {
				return "{" + m.inner(deep-1) + "}"
			}
		}
		return m.one("a", " ", "\n", "$$ = $1", "\\", "'", "`", "%", "%%", "%foo", "=", ";", "/ ", " / a", "* /\n", "\x00", "\xff", "\u00e9")
	})
}

func (m maker) token() api.Token {
	switch m.Intn(4) {
	case 0:
		return api.Token{Kind: api.TokName, Text: m.name()}
	case 1:
		return api.Token{Kind: api.TokWord, Text: m.one(words()...)}
	case 2:
		return api.Token{Kind: api.TokAction, Text: m.inner(3)}
	}
	return api.Token{Kind: api.TokSign, Text: m.one(signs()...)}
}

// written is a token as it stands in a source.
func written(t api.Token) string {
	switch t.Kind {
	case api.TokWord:
		return "%" + t.Text
	case api.TokAction:
		return "{" + t.Text + "}"
	}
	return t.Text
}

// joined is a source of these tokens with something between; with it go the tokens as they are told of it.
func joined(tokens []api.Token, between func() string) (string, []api.Token) {
	var s strings.Builder
	var placed []api.Token
	for i, token := range tokens {
		if i > 0 {
			s.WriteString(between())
		}
		token.At = s.Len()
		placed = append(placed, token)
		s.WriteString(written(token))
	}
	return s.String(), append(placed, api.Token{Kind: api.TokEnd, At: s.Len()})
}

func wantsTokens(t *testing.T, s string, want []api.Token) {
	t.Helper()
	if got, fault := lex.Tokens(s); fault != (api.Fault{}) || !slices.Equal(got, want) {
		t.Errorf("%s: %.200s; wanted %.200s", short(s), spell(got, fault), spell(want, api.Fault{}))
	}
}

func TestTokensWithABlankBetween(t *testing.T) {
	m := maker{rand.New(rand.NewSource(12))}
	for range 20000 {
		var tokens []api.Token
		for range m.Intn(9) {
			tokens = append(tokens, m.token())
		}
		for _, between := range []func() string{
			func() string { return " " },
			func() string { return m.one(blanks()...) },
			func() string { return m.one("//\n", "// {\n", "\n// a\n// \"\n", " \t", "\r\n") },
		} {
			s, want := joined(tokens, between)
			wantsTokens(t, s, want)
		}
	}
}

// TestTokensThatWereToldWrittenAgain writes what was told of sources that have something else between their tokens, or nothing.
func TestTokensThatWereToldWrittenAgain(t *testing.T) {
	chance, many := rand.New(rand.NewSource(13)), 0
	pieces := slices.Concat(signs(), strings.Split("%token ~%left\n~%prec//\n~a~b1~_x~{}~{ a }~{{}}~{\"}\"}~{\"\\\"{\"}~{// }\n}~{\"//\"}~//\n~// {\n~{~}~\"~ ~\n~/", "~"))
	for range 50000 {
		first, fault := lex.Tokens(mixed(chance, chance.Intn(9), pieces))
		if fault != (api.Fault{}) {
			continue
		}
		many++
		s, want := joined(first[:len(first)-1], func() string { return blanks()[chance.Intn(4)] })
		wantsTokens(t, s, want)
	}
	if many < 10000 {
		t.Errorf("only %d sources were told of", many)
	}
}

// surroundings are sources, some of them with a fault, that take nothing of what stands behind them, nor ahead.
func surroundings() []string {
	return []string{"", " ", "a", "a ", "a:b|", "%token", "%%", "%%\n", ";", "{}", "{\"}\"}", "{{a}//}\n}", "// {\n", "// \"\n", "// } \\\n", "//\n", "=", "\"", "}", "\\", "/ ", "%foo ", "%", " {\"\n\"}", strings.Repeat("a", 41), "\xff", "1"}
}

func moved(tokens []api.Token, by int) []api.Token {
	out := slices.Clone(tokens)
	for i := range out {
		out[i].At += by
	}
	return out
}

// around is what is told of an action between two sources, after what is told of these alone.
func around(ahead, text, behind string) ([]api.Token, api.Fault) {
	first, fault := lex.Tokens(ahead)
	if fault != (api.Fault{}) {
		return nil, fault
	}
	by := len(ahead) + len(text) + 2
	second, fault := lex.Tokens(behind)
	if fault != (api.Fault{}) {
		return nil, api.Fault{Err: fault.Err, At: by + fault.At}
	}
	middle := api.Token{Kind: api.TokAction, Text: text, At: len(ahead)}
	return slices.Concat(first[:len(first)-1], []api.Token{middle}, moved(second, by)), api.Fault{}
}

func TestActionsHangOnNothingWithout(t *testing.T) {
	m := maker{rand.New(rand.NewSource(14))}
	texts := []string{"", "a", "\"}\"", "\"{\"", "//}\n", "//\"\n", "{}", "{\"}\"}", "\"\\\"\"", "\"\\\n\"", "\\", "/", "'", "\"//\"", "%foo", "=", "%%", "\xff"}
	for range 200 {
		texts = append(texts, m.inner(3))
	}
	for _, text := range texts {
		for _, ahead := range surroundings() {
			for _, behind := range surroundings() {
				s := ahead + "{" + text + "}" + behind
				want, wanted := around(ahead, text, behind)
				if got, fault := lex.Tokens(s); fault != wanted || !slices.Equal(got, want) {
					t.Errorf("%s: %.200s; wanted %.200s", short(s), spell(got, fault), spell(want, wanted))
				}
			}
		}
	}
}

func TestActionsWithinActions(t *testing.T) {
	m := maker{rand.New(rand.NewSource(15))}
	for range 20000 {
		text := m.inner(2) + "{" + m.inner(2) + "}" + m.inner(2)
		wants(t, "{"+text+"}", action(text))
		wants(t, "{"+text, noToken(0))
		wants(t, "{"+text+"}}", noByte(len(text)+2))
	}
}
