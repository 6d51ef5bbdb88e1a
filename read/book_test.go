package read_test

import (
	"strings"
	"testing"

	"gristmill/api"
	"gristmill/lex"
	"gristmill/read"
)

// language is the document's; blanks stand between all its tokens.
const language = `
text = { decl } "%%" { rule } end
decl = ( "%token" [ of ] | "%type" of | "%left" | "%right" | "%nonassoc" | "%start" ) name { name } ";"
of = "<" name ">"
rule = name [ "(" name { "," name } ")" ] ":" alt { "|" alt } ";"
alt = { word } [ "%prec" name ] [ action ]
word = name [ "(" word { "," word } ")" ]
`

// part is one of a right side: a token's class, a rule's name, or, of a bracket, rows of parts.
type part struct {
	bracket string
	text    string
	rows    [][]part
}

// book is the rows of each rule.
type book map[string][][]part

func openBook() book {
	b := book{}
	for line := range strings.Lines(language) {
		if words := strings.Fields(line); len(words) > 0 {
			rest := words[2:]
			b[words[0]] = rowsOf(&rest)
		}
	}
	return b
}

func rowsOf(rest *[]string) [][]part {
	rows := [][]part{nil}
	for len(*rest) > 0 {
		word := (*rest)[0]
		*rest = (*rest)[1:]
		last := len(rows) - 1
		switch {
		case word == "|":
			rows = append(rows, nil)
		case strings.Contains(")]}", word):
			return rows
		case strings.Contains("([{", word):
			rows[last] = append(rows[last], part{bracket: word, rows: rowsOf(rest)})
		default:
			rows[last] = append(rows[last], part{text: strings.Trim(word, "\"")})
		}
	}
	return rows
}

// coming is what is still to come, and in how many words, with its own, the first of it stands.
type coming struct {
	first  part
	words  int
	behind *coming
}

func ahead(row []part, words int, behind *coming) *coming {
	for i := len(row) - 1; i >= 0; i-- {
		behind = &coming{row[i], words, behind}
	}
	return behind
}

// tokens tells each token that may stand next: the first of what comes is it.
func (b book) tokens(c *coming, found func(*coming)) {
	rows, isRule := b[c.first.text]
	switch {
	case c.first.bracket == "{":
		for _, row := range c.first.rows {
			b.tokens(ahead(row, c.words, c), found)
		}
		b.tokens(c.behind, found)
	case c.first.bracket != "":
		for _, row := range c.first.rows {
			b.tokens(ahead(row, c.words, c.behind), found)
		}
		if c.first.bracket == "[" {
			b.tokens(c.behind, found)
		}
	case isRule:
		words := c.words
		if c.first.text == "word" {
			words++
		}
		for _, row := range rows {
			if next := ahead(row, words, c.behind); next != nil {
				b.tokens(next, found)
			}
		}
	default:
		found(c)
	}
}

// class is by what the document's language names a token.
func class(t api.Token) string {
	switch t.Kind {
	case api.TokName:
		return "name"
	case api.TokAction:
		return "action"
	case api.TokEnd:
		return "end"
	case api.TokWord:
		return "%" + t.Text
	}
	return t.Text
}

// look is all that may be to come behind the tokens that were taken.
type look struct {
	book
	may []*coming
}

func (b book) look() look {
	return look{b, []*coming{{first: part{text: "text"}}}}
}

// take is the look behind one token more, and in how many words that stands; none, if it may not stand there.
func (l look) take(t api.Token) (look, int, bool) {
	out, words := look{book: l.book}, 0
	of, ok := class(t), false
	for _, c := range l.may {
		l.tokens(c, func(c *coming) {
			if c.first.text != of {
				return
			}
			ok, words = true, c.words
			if c.behind != nil {
				out.may = append(out.may, c.behind)
			}
		})
	}
	return out, words, ok
}

func (l look) fault(tokens []api.Token) api.Fault {
	for _, t := range tokens {
		next, words, ok := l.take(t)
		if !ok {
			return api.Fault{Err: api.ErrSyntax, At: t.At}
		}
		if words > 61 {
			return api.Fault{Err: api.ErrDeep, At: t.At}
		}
		l = next
	}
	return api.Fault{}
}

// said is the tokens that a text says, one behind the other, and which of them have which places.
type said struct {
	tokens []api.Token
	places []place
}

type place struct{ token, at int }

func (s *said) here(at int) { s.places = append(s.places, place{len(s.tokens), at}) }

func (s *said) put(kind api.TokenKind, text string) {
	s.tokens = append(s.tokens, api.Token{Kind: kind, Text: text})
}

func (s *said) sign(text string) { s.put(api.TokSign, text) }

// names are put with signs around and between, if there are some.
func (s *said) names(open, between, shut string, names []string) {
	for i, name := range names {
		if i == 0 && open != "" {
			s.sign(open)
		}
		if i > 0 && between != "" {
			s.sign(between)
		}
		s.put(api.TokName, name)
	}
	if len(names) > 0 && shut != "" {
		s.sign(shut)
	}
}

func (s *said) text(t api.Text) {
	for _, d := range t.Decls {
		s.here(d.At)
		s.put(api.TokWord, d.Kind)
		if d.Type != "" {
			s.names("<", "", ">", []string{d.Type})
		}
		s.names("", "", "", d.Names)
		s.sign(";")
	}
	s.sign("%%")
	for _, r := range t.Rules {
		s.here(r.At)
		s.put(api.TokName, r.Name)
		s.names("(", ",", ")", r.Params)
		for i, a := range r.Alts {
			s.sign([]string{":", "|"}[min(i, 1)])
			s.alt(a)
		}
		s.sign(";")
	}
	s.put(api.TokEnd, "")
}

func (s *said) alt(a api.Alt) {
	s.here(a.At)
	for _, w := range a.Words {
		s.word(w)
	}
	if a.Prec != "" {
		s.put(api.TokWord, "prec")
		s.put(api.TokName, a.Prec)
	}
	if a.Has {
		s.here(a.Where - 1)
		s.put(api.TokAction, a.Action)
	}
}

func (s *said) word(w api.Word) {
	s.here(w.At)
	s.put(api.TokName, w.Name)
	for i, arg := range w.Args {
		s.sign([]string{"(", ","}[min(i, 1)])
		s.word(arg)
	}
	if len(w.Args) > 0 {
		s.sign(")")
	}
}

// says tells whether a text says just these tokens, each part at its place.
func says(t api.Text, tokens []api.Token) bool {
	var s said
	s.text(t)
	if len(s.tokens) != len(tokens) {
		return false
	}
	for i, token := range s.tokens {
		if token.Kind != tokens[i].Kind || token.Text != tokens[i].Text {
			return false
		}
	}
	for _, p := range s.places {
		if tokens[p.token].At != p.at {
			return false
		}
	}
	return true
}

// byTheBook holds what is told of a source against the document's words; it tells whether that is a text.
func byTheBook(t *testing.T, b book, s string) bool {
	t.Helper()
	tokens, want := lex.Tokens(s)
	if want == (api.Fault{}) {
		want = b.look().fault(tokens)
	}
	text, got := read.Text(s)
	if got != want {
		t.Errorf("%s (%d bytes): %v; wanted %v", short(s), len(s), got, want)
	}
	switch {
	case got != (api.Fault{}):
		if len(text.Decls)+len(text.Rules) > 0 {
			t.Errorf("%s (%d bytes): beside the fault %v a text: %.400s", short(s), len(s), got, spell(text, got))
		}
	case !says(text, tokens):
		t.Errorf("%s (%d bytes): %.400s", short(s), len(s), spell(text, got))
	}
	return got == (api.Fault{})
}
