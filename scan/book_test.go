package scan_test

import (
	"math/rand"
	"regexp"
	"slices"
	"strconv"
	"strings"
	"testing"

	"gristmill/api"
	"gristmill/scan"
)

// book is the document's words as patterns; all of them are held against the beginning of what is left.
type book struct {
	blanks, name, digits, number, text, dollar, sign *regexp.Regexp
}

func openBook() book {
	all := append(signs(), foreignSigns()...)
	slices.SortFunc(all, func(a, b string) int { return len(b) - len(a) })
	for i, s := range all {
		all[i] = regexp.QuoteMeta(s)
	}
	return book{
		blanks: regexp.MustCompile(`^([\t\r ]|//[^\n]*)+`),
		name:   regexp.MustCompile(`^[A-Za-z_][A-Za-z_0-9]*`),
		digits: regexp.MustCompile(`^[0-9]+(\.[0-9]+)?`),
		number: regexp.MustCompile(`^(0|[1-9][0-9]*)(\.[0-9]+)?($|[^A-Za-z_0-9.])`),
		text:   regexp.MustCompile(`^"([ !#-\[\]-~]|\\[ntr\\"]|\\x[0-9a-fA-F][0-9a-fA-F])*"`),
		dollar: regexp.MustCompile(`^\$(\$|[1-9][0-9]?($|[^A-Za-z_0-9]))`),
		sign:   regexp.MustCompile(`^(` + strings.Join(all, "|") + `)`),
	}
}

// one is the token that the rest of a source begins with, how many bytes it takes, and what is wrong with it.
func (b book) one(rest string) (api.Token, int, api.Errno) {
	none := api.Token{}
	if s := b.name.FindString(rest); s != "" {
		if slices.Contains(words(), s) {
			return api.Token{Kind: api.TokWord, Text: s}, len(s), api.OK
		}
		if len(s) > 40 || s == "_" || slices.Contains(foreignWords(), s) {
			return none, 0, api.ErrToken
		}
		return api.Token{Kind: api.TokName, Text: s}, len(s), api.OK
	}
	if s := b.digits.FindString(rest); s != "" {
		if len(strings.ReplaceAll(s, ".", "")) > 40 || !b.number.MatchString(rest) {
			return none, 0, api.ErrToken
		}
		if strings.Contains(s, ".") {
			return api.Token{Kind: api.TokFloat, Text: s}, len(s), api.OK
		}
		return api.Token{Kind: api.TokInt, Text: s}, len(s), api.OK
	}
	if s := b.text.FindString(rest); s != "" {
		says, _ := strconv.Unquote(s)
		return api.Token{Kind: api.TokString, Text: says}, len(s), api.OK
	}
	if b.dollar.MatchString(rest) {
		s := regexp.MustCompile(`^\$(\$|[0-9]+)`).FindString(rest)
		return api.Token{Kind: api.TokDollar, Text: s[1:]}, len(s), api.OK
	}
	if rest[0] == '"' || rest[0] == '$' {
		return none, 0, api.ErrToken
	}
	s := b.sign.FindString(rest)
	if s == "" {
		return none, 0, api.ErrByte
	}
	if slices.Contains(foreignSigns(), s) {
		return none, 0, api.ErrToken
	}
	return api.Token{Kind: api.TokSign, Text: s}, len(s), api.OK
}

func endsLine(t api.Token) bool {
	if t.Kind == api.TokWord || t.Kind == api.TokSign {
		return slices.Contains(strings.Fields("break continue return true false ) ] }"), t.Text)
	}
	return true
}

func (b book) tokens(s string) ([]api.Token, api.Fault) {
	var out []api.Token
	end := func(at int) {
		if len(out) > 0 && endsLine(out[len(out)-1]) {
			out = append(out, api.Token{Kind: api.TokSign, Text: ";", At: at})
		}
	}
	for at := 0; at < len(s); {
		if blanks := b.blanks.FindString(s[at:]); blanks != "" {
			at += len(blanks)
			continue
		}
		if s[at] == 10 {
			end(at)
			at++
			continue
		}
		token, n, err := b.one(s[at:])
		if err != api.OK {
			return nil, api.Fault{Err: err, At: at}
		}
		token.At = at
		out = append(out, token)
		at += n
	}
	end(len(s))
	return append(out, api.Token{Kind: api.TokEnd, At: len(s)}), api.Fault{}
}

func byTheBook(t *testing.T, b book, s string) {
	t.Helper()
	got, fault := scan.Tokens(s)
	want, wanted := b.tokens(s)
	if fault != wanted || !slices.Equal(got, want) {
		t.Errorf("%s: %s; wanted %s", short(s), spell(got, fault), spell(want, wanted))
	}
}

func TestEachByteByTheBook(t *testing.T) {
	b := openBook()
	for _, around := range []string{
		"?", "a?", "a?b", "_?", "1?", "1?2", "0?", "1.?", "1.5?", "?1", "?.5", "1 ?", "\"?\"", "\"a?b\"", "\"?", "\"\\?\"", "\"\\?41\"", "\"\\x?1\"", "\"\\x1?\"", "\"a\"?",
		"$?", "$?1", "$$?", "$1?", "$12?", "?\n", "a?\n", "a\n?", "a ?\nb", ")?\n", "if?\n", "true?\n", "?\nb", "a//?\nb", "a /?/ b", "//?", "?//\n", "/?", ".?", "..?", "?..", "+?", "<?", "&?", "|?", ":?", "go?", "?go", "i?f", " ? ",
	} {
		for c := range 256 {
			byTheBook(t, b, strings.ReplaceAll(around, "?", string([]byte{byte(c)})))
		}
	}
}

func TestEachTwoBytesByTheBook(t *testing.T) {
	b := openBook()
	for c := range 256 * 256 {
		byTheBook(t, b, string([]byte{byte(c >> 8), byte(c)}))
	}
}

func TestEachTwoAndThreeSignsByTheBook(t *testing.T) {
	b, all := openBook(), append(signs(), foreignSigns()...)
	for _, first := range all {
		for _, second := range all {
			byTheBook(t, b, first+second)
			byTheBook(t, b, "a"+first+second+"a\n")
			byTheBook(t, b, first+" "+second)
			for _, third := range all {
				byTheBook(t, b, first+second+third)
			}
		}
	}
}

// shortSources are all sources of so many of these pieces.
func shortSources(many int, pieces ...string) []string {
	out := []string{""}
	for range many {
		var longer []string
		for _, s := range out {
			for _, piece := range pieces {
				longer = append(longer, s+piece)
			}
		}
		out = longer
	}
	return out
}

func TestShortSourcesByTheBook(t *testing.T) {
	b := openBook()
	for _, s := range slices.Concat(
		shortSources(6, "0", "1", ".", "a", " "),
		shortSources(6, "\"", "\\", "x", "4", "n"),
		shortSources(6, "$", "0", "1", "_", " "),
		shortSources(6, "/", "*", "\n", "a", " "),
		shortSources(5, ")", "\n", "\r", "//", "if", ";", "break "),
		shortSources(5, "<", "-", "=", "+", ">", ":", "."),
	) {
		byTheBook(t, b, s)
	}
}

func TestMixedSourcesByTheBook(t *testing.T) {
	b, chance := openBook(), rand.New(rand.NewSource(3))
	pieces := slices.Concat(words(), signs(), foreignWords()[:1], foreignSigns()[:1], strings.Split("a|b1|_x|0|7|10|1.5|0.0|\"\"|\"a\"|\"\\x41\\n\"|$$|$1|$99|\n|\r\n|\n\n| //\n|// $ # go\n|\t|#|_|\"|007|$", "|"))
	for range 20000 {
		var s strings.Builder
		for range chance.Intn(12) {
			s.WriteString(pieces[chance.Intn(len(pieces))])
			if chance.Intn(4) > 0 {
				s.WriteByte(' ')
			}
		}
		byTheBook(t, b, s.String())
	}
	for range 20000 {
		s := make([]byte, chance.Intn(8))
		for i := range s {
			s[i] = byte(chance.Intn(256))
		}
		byTheBook(t, b, string(s))
	}
}
