package scan_test

import (
	"math/rand"
	"slices"
	"strconv"
	"strings"
	"testing"

	"gristmill/api"
	"gristmill/scan"
)

// bookQuoted is the document's words.
func bookQuoted(s string) string {
	out := "\""
	for i := range len(s) {
		switch c := s[i]; {
		case c == 10:
			out += "\\n"
		case c == 9:
			out += "\\t"
		case c == 13:
			out += "\\r"
		case c == 92:
			out += "\\\\"
		case c == 34:
			out += "\\\""
		case c >= 32 && c <= 126:
			out += s[i : i+1]
		default:
			out += "\\x" + strconv.FormatInt(256+int64(c), 16)[1:]
		}
	}
	return out + "\""
}

// quotable are texts: each byte, each two, some longer ones.
func quotable() []string {
	out := []string{"", "a", "abc", "a\"\\\n\t\r\x00\xff~", "\\n", "\\\\", "\"\"", "\\x41", "// go", "$$", "\u00e9\u2028\U0001f600", "\x7f\x80\x1f ", strings.Repeat("\x00", 1<<14-1), strings.Repeat("a", 1<<16-2), strings.Repeat("\"", 1<<15-1)}
	for c := range 256 {
		out = append(out, string([]byte{byte(c)}), "a"+string([]byte{byte(c)})+"1", string([]byte{byte(c), byte(c)}))
	}
	chance := rand.New(rand.NewSource(2))
	for range 5000 {
		s := make([]byte, chance.Intn(20))
		for i := range s {
			s[i] = byte(chance.Intn(256))
		}
		out = append(out, string(s))
	}
	return out
}

func TestQuote(t *testing.T) {
	for s, want := range map[string]string{
		"": `""`, "a": `"a"`, " ~": `" ~"`, "a b": `"a b"`, "\n": `"\n"`, "\t": `"\t"`, "\r": `"\r"`, "\\": `"\\"`, "\"": `"\""`, "'": `"'"`, "$": `"$"`, "`": "\"`\"", "\x00": `"\x00"`, "\x07": `"\x07"`, "\x08": `"\x08"`, "\x0b": `"\x0b"`, "\x0c": `"\x0c"`, "\x1f": `"\x1f"`, "\x7f": `"\x7f"`, "\x80": `"\x80"`, "\xab": `"\xab"`, "\xff": `"\xff"`,
		"\u00e9": `"\xc3\xa9"`, "a\"\\\n\t\r\x00\xff~": `"a\"\\\n\t\r\x00\xff~"`, "\\n": `"\\n"`,
	} {
		if got := scan.Quote(s); got != want {
			t.Errorf("%q: %s; wanted %s", s, got, want)
		}
	}
}

func TestQuoteByTheBook(t *testing.T) {
	for _, s := range quotable() {
		if len(s) > 1000 {
			continue
		}
		if got, want := scan.Quote(s), bookQuoted(s); got != want {
			t.Errorf("%q: %s; wanted %s", s, got, want)
		}
	}
}

func TestQuotedIsAStringThatSaysIt(t *testing.T) {
	for _, s := range quotable() {
		quoted := scan.Quote(s)
		want := []api.Token{{Kind: api.TokString, Text: s}, {Kind: api.TokSign, Text: ";", At: len(quoted)}, {Kind: api.TokEnd, At: len(quoted)}}
		if got, fault := scan.Tokens(quoted); fault != (api.Fault{}) || !slices.Equal(got, want) {
			t.Errorf("%s: %.200s", short(s), spell(got, fault))
		}
	}
	if quoted := scan.Quote(strings.Repeat("\xff", 1<<17)); quoted != "\""+strings.Repeat("\\xff", 1<<17)+"\"" {
		t.Errorf("a long text: %d bytes", len(quoted))
	}
}

func TestWords(t *testing.T) {
	got := scan.Words()
	if !slices.Equal(got, words()) {
		t.Errorf("%v; wanted %v", got, words())
	}
	clear(got)
	if got := scan.Words(); !slices.Equal(got, words()) {
		t.Errorf("no new memory: %v", got)
	}
	wants(t, "break break", "W:break@0 W:break@6 ;@11 E@11")
}

// written are tokens one behind the other, with a blank between.
func written(tokens []api.Token) string {
	var out []string
	for _, t := range tokens {
		switch t.Kind {
		case api.TokString:
			out = append(out, scan.Quote(t.Text))
		case api.TokDollar:
			out = append(out, "$"+t.Text)
		default:
			out = append(out, t.Text)
		}
	}
	return strings.Join(out, " ")
}

func TestWrittenTokensAreToldAsTheyWere(t *testing.T) {
	chance := rand.New(rand.NewSource(1))
	pieces := slices.Concat(words(), signs(), strings.Fields("a b1 __ 0 10 1.5 0.0 \"\" \"\\xff\\n$\\\"\" $$ $1 $99"), []string{"\n", "\n", "// c\n"})
	for range 3000 {
		var s strings.Builder
		for range chance.Intn(20) {
			s.WriteString(pieces[chance.Intn(len(pieces))] + " ")
		}
		tokens, fault := scan.Tokens(s.String())
		again, faultAgain := scan.Tokens(written(tokens))
		if fault != (api.Fault{}) || faultAgain != (api.Fault{}) {
			t.Fatalf("%q: %v, %v", s.String(), fault, faultAgain)
		}
		if !slices.EqualFunc(tokens, again, func(a, b api.Token) bool { return a.Kind == b.Kind && a.Text == b.Text }) {
			t.Errorf("%q: %s; wanted %s", s.String(), spell(again, fault), spell(tokens, fault))
		}
	}
}
