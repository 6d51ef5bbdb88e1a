package lex_test

import (
	"math/rand"
	"regexp"
	"slices"
	"strings"
	"testing"

	"gristmill/api"
	"gristmill/lex"
)

// book is the document's words as patterns; all of them are held against the beginning of what is left.
type book struct {
	goesBy, name, word, sign, within *regexp.Regexp
}

func openBook() book {
	return book{
		goesBy: regexp.MustCompile(`^([\t\n\r ]|//[^\n]*)+`),
		name:   regexp.MustCompile(`^[A-Za-z_][A-Za-z_0-9]*`),
		word:   regexp.MustCompile(`^%(token|type|left|right|nonassoc|start|prec)($|[^A-Za-z_0-9])`),
		sign:   regexp.MustCompile(`^(%%|:|;|\||\(|\)|,|<|>)`),
		within: regexp.MustCompile(`(?s)^(//[^\n]*|"(\\.|[^"\\\n])*"|.)`),
	}
}

// action is as much of what is left as an action takes, or nothing.
func (b book) action(rest string) string {
	open := 0
	for at := 0; at < len(rest); {
		piece := b.within.FindString(rest[at:])
		at += len(piece)
		switch piece {
		case "{":
			open++
		case "}":
			open--
		case "\"":
			return ""
		}
		if open == 0 {
			return rest[:at]
		}
	}
	return ""
}

// one is the token that the rest of a source begins with, how many bytes it takes, and what is wrong with it.
func (b book) one(rest string) (api.Token, int, api.Errno) {
	none := api.Token{}
	if s := b.name.FindString(rest); s != "" {
		if len(s) > 40 {
			return none, 0, api.ErrToken
		}
		return api.Token{Kind: api.TokName, Text: s}, len(s), api.OK
	}
	if s := b.sign.FindString(rest); s != "" {
		return api.Token{Kind: api.TokSign, Text: s}, len(s), api.OK
	}
	if s := b.word.FindStringSubmatch(rest); s != nil {
		return api.Token{Kind: api.TokWord, Text: s[1]}, 1 + len(s[1]), api.OK
	}
	if s := b.action(rest); rest[0] == '{' && s != "" {
		return api.Token{Kind: api.TokAction, Text: s[1 : len(s)-1]}, len(s), api.OK
	}
	if rest[0] == '%' || rest[0] == '{' {
		return none, 0, api.ErrToken
	}
	return none, 0, api.ErrByte
}

func (b book) tokens(s string) ([]api.Token, api.Fault) {
	if len(s) > 1<<16 {
		return nil, api.Fault{Err: api.ErrLong}
	}
	var out []api.Token
	for at := 0; at < len(s); {
		if n := len(b.goesBy.FindString(s[at:])); n > 0 {
			at += n
			continue
		}
		token, n, err := b.one(s[at:])
		if err != api.OK {
			return nil, api.Fault{Err: err, At: at}
		}
		token.At = at
		out = append(out, token)
		at += n
	}
	return append(out, api.Token{Kind: api.TokEnd, At: len(s)}), api.Fault{}
}

func byTheBook(t *testing.T, b book, s string) {
	t.Helper()
	got, fault := lex.Tokens(s)
	want, wanted := b.tokens(s)
	if fault != wanted || !slices.Equal(got, want) {
		t.Errorf("%s: %.200s; wanted %.200s", short(s), spell(got, fault), spell(want, wanted))
	}
}

func TestEachByteByTheBook(t *testing.T) {
	b := openBook()
	for _, around := range []string{
		"?", "a?", "?a", "a?b", "_?", "%?", "%?token", "%tok?en", "%token?", "%token?a", "%%?", "?%", "?%%", "%?%", ";?", "?;", "/?", "?/", "/?/", "//?", "//?\n", "//?\n?", "?//", "a//\n?", " ? ", "\n?\n",
		"{?", "?}", "{?}", "{a?b}", "{?}?", "?{?}", "{{?}}", "{?{}?}", "{\"?\"}", "{\"?", "{\"?}", "{\"\\?\"}", "{\"\\?", "{\"\\?}", "{\"\\\\?\"}", "{\"a?b\"c\"}", "{//?\n}", "{//?}", "{//?", "{//\n?}", "{/?}", "{/?/}", "{/?/\n}", "{?/}", "{?//\n}", "{?\"\"}", "{\\?}", "{\\?\"}", "{?\\}", "{\"\"?}", "{'?'}",
	} {
		for c := range 256 {
			byTheBook(t, b, strings.ReplaceAll(around, "?", oneByte(c)))
		}
	}
}

func TestEachTwoBytesByTheBook(t *testing.T) {
	b := openBook()
	for c := range 256 * 256 {
		s := string([]byte{byte(c >> 8), byte(c)})
		byTheBook(t, b, s)
		byTheBook(t, b, "{"+s+"}")
		byTheBook(t, b, "{\""+s+"\"}")
	}
}

// shortSources are all sources of so many of these pieces.
func shortSources(many int, pieces ...string) []string {
	out := []string{""}
	for range many {
		var longer []string
		for _, s := range out {
			for _, piece := range pieces {
				longer = append(longer, s+piece)
			}
		}
		out = longer
	}
	return out
}

func TestShortSourcesByTheBook(t *testing.T) {
	b := openBook()
	for _, s := range shortSources(6, "{", "}", "\"", "\\", "/", "\n", "a") {
		byTheBook(t, b, s)
		byTheBook(t, b, "{"+s)
	}
	for _, s := range shortSources(5, "\"", "\\", "/", "\n", "}", "{\"", "//", "{//") {
		byTheBook(t, b, "{"+s+"\"}")
		byTheBook(t, b, "{"+s+"\n}")
		byTheBook(t, b, "{"+s+"}a")
	}
	for _, s := range slices.Concat(
		shortSources(6, "%", "token", "a", " ", "1"),
		shortSources(5, "%", "%left", "prec", "_", ";", "//", "\n"),
		shortSources(5, "/", "//", "\n", "\r", "a", "{}", "}"),
	) {
		byTheBook(t, b, s)
	}
}

// mixed is a source of so many of these pieces, with a blank behind most of them.
func mixed(chance *rand.Rand, many int, pieces []string) string {
	var s strings.Builder
	for range many {
		s.WriteString(pieces[chance.Intn(len(pieces))])
		if chance.Intn(4) > 0 {
			s.WriteString(blanks()[chance.Intn(4)])
		}
	}
	return s.String()
}

func TestMixedSourcesByTheBook(t *testing.T) {
	b, chance := openBook(), rand.New(rand.NewSource(10))
	pieces := slices.Concat(signs(), signs(), strings.Split("%token ~%type ~%left\n~%right ~%nonassoc ~%start ~%prec ~a~b1~_x~list~int~token~{}~{ a }~{{}}~{\"}\"}~{\"\\\"{\"}~{// }\n}~{\"//\"}~//\n~// {\n~// \"\n~ ", "~"))
	wrong := slices.Concat(pieces, strings.Split("{~}~\"~\\~/~%foo~%~=~1~\xff~//", "~"))
	for range 20000 {
		byTheBook(t, b, mixed(chance, chance.Intn(12), pieces))
		byTheBook(t, b, mixed(chance, chance.Intn(8), wrong))
	}
	for range 20000 {
		s := make([]byte, chance.Intn(8))
		for i := range s {
			s[i] = byte(chance.Intn(256))
		}
		byTheBook(t, b, string(s))
		byTheBook(t, b, "{"+string(s)+"}")
	}
}

func TestGreatSourcesByTheBook(t *testing.T) {
	b, chance := openBook(), rand.New(rand.NewSource(11))
	pieces := slices.Concat(signs(), strings.Split("%left~%prec~a~b1~{ a }~{\"}\"}~{// }\n}~// c\n", "~"))
	inner := strings.Split("a~ ~{}~{{\n}}~\"}\"~\"{\\\"\"~//}\n~/ ~\\~\xff", "~")
	for range 20 {
		s := mixed(chance, 6000, pieces)
		byTheBook(t, b, s)
		byTheBook(t, b, s+"=")
		byTheBook(t, b, strings.Repeat(s, 8))
		s = mixed(chance, 12000, inner)
		byTheBook(t, b, "{"+s+"}")
		byTheBook(t, b, "{"+s)
		byTheBook(t, b, "{"+s+"\"}")
		s = mixed(chance, 60000, []string{"{", "\"}\"", "//\n"})
		byTheBook(t, b, s)
	}
}
