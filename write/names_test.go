package write_test

import (
	"slices"
	"strings"
	"testing"

	"gristmill/api"
)

// noNames are what no name is.
func noNames() []string {
	long := strings.Repeat("n", 41)
	return []string{
		"", "1", "9a", "0_", " ", " a", "a ", "a b", "\ta", "a\t", "a\n", "\na", "a\r", "a\nb", "\n",
		":", ";", "|", "(", ")", ",", "<", ">", "%", "%%", "a:", "a;", ";a", "a|b", "a(b)", "a(", "(a)", "a,b", "a, b", "<a>", "a>",
		"%token", "%type", "%left", "%right", "%nonassoc", "%start", "%prec", "%prec a", "a %prec b", "%a", "a%", "%foo",
		"{}", "{a}", "a{}", "a {}", "{", "}", "a}", "\"", "\"a\"", "a\"", "'a'", "`a`", "//", "a//", "a//\n", "// a\na", "/", "a/b", "/* */a",
		"-", "a-b", "-a", "a.b", "$", "$$", "$1", "$end", "a$", "=", "a=b", "#", "@", "a'", "\\", "a\\b", "+", "*", "?", "!", "~", "^", "&", "[", "]",
		"\x00", "a\x00", "\x7f", "\x80", "\xff", "a\xff", "\xffa", "\u00e9", "a\u00e9", "\u00e4b", "\u03b1", "\u65e5\u672c", "\uff41", "\uff11", "a\u00a0", "\u2028", "\ufeffa", "\u2178", "\u0130", "\u017f", "\u212a", "a\u0661",
		long, "_" + long, strings.Repeat("N", 80), strings.Repeat("a", 1<<16), strings.Repeat("a", 1<<16+1), strings.Repeat(" ", 1<<16) + "a", "a" + strings.Repeat(" ", 1<<16), "a" + strings.Repeat("1", 40),
	}
}

// someNames are some.
func someNames() []string {
	return []string{"a", "z", "A", "Z", "_", "a0", "a9", "__", "_1", "aZ", "list", "NUM", "token", "type", "left", "right", "nonassoc", "start", "prec", "int", "func", "break", strings.Repeat("n", 39), strings.Repeat("n", 40), "_" + strings.Repeat("9", 39)}
}

// samples are texts that have all that there is.
func samples() []api.Text {
	first := api.Rule{Name: "e", Params: []string{"X", "Y"}, Alts: []api.Alt{
		act(prec(alt(word("e", word("X"), word("f", word("Y"))), word("A")), "B"), "$$=$1"),
		alt(),
	}}
	return []api.Text{
		{
			Decls: []api.Decl{decl("token", "int", "A", "B"), decl("token", "", "C"), decl("type", "bool", "e", "f"), decl("left", "", "A"), decl("right", "", "B", "C"), decl("nonassoc", "", "D"), decl("start", "", "e")},
			Rules: []api.Rule{first, rule("f", act(alt(), ""))},
		},
		{
			Decls: []api.Decl{decl("left", "", "a")},
			Rules: []api.Rule{rule("a", alt(word("a")), prec(alt(word("a", word("a"))), "a"), prec(alt(), "a"), act(prec(alt(), "a"), ";"), act(alt(word("a")), "a"))},
		},
		ruled(rule("a", alt(word("b", word("c", word("d"), word("e", word("f"))), word("g")), word("h"), word("i", word("j")))), rule("k", alt(word("l")))),
		declared(decl("type", "type", "type")),
		declared(decl("start", "", "a", "b", "c")),
	}
}

// names are all names of a text, where they stand.
func names(t *api.Text) []*string {
	var out []*string
	add := func(row []string) {
		for i := range row {
			out = append(out, &row[i])
		}
	}
	var words func(row []api.Word)
	words = func(row []api.Word) {
		for i := range row {
			out = append(out, &row[i].Name)
			words(row[i].Args)
		}
	}
	for i := range t.Decls {
		out = append(out, &t.Decls[i].Type)
		add(t.Decls[i].Names)
	}
	for i := range t.Rules {
		out = append(out, &t.Rules[i].Name)
		add(t.Rules[i].Params)
		for j := range t.Rules[i].Alts {
			a := &t.Rules[i].Alts[j]
			out = append(out, &a.Prec)
			words(a.Words)
		}
	}
	return out
}

// TestTurnedNames turns each name of a text into each other, and what is none.
func TestTurnedNames(t *testing.T) {
	for _, x := range samples() {
		x = bare(x)
		for _, name := range names(&x) {
			kept := *name
			for _, other := range slices.Concat(noNames(), someNames()) {
				*name = other
				byTheBook(t, x)
			}
			*name = kept
		}
		if !byTheBook(t, x) {
			t.Errorf("%s is refused", short(bookText(x)))
		}
	}
}

// TestNamesOfEachByte has each byte, and pairs of them, where each kind of name stands.
func TestNamesOfEachByte(t *testing.T) {
	x := samples()[0]
	x.Decls = x.Decls[:3]
	for _, name := range names(&x) {
		kept := *name
		for c := range 256 {
			b := string([]byte{byte(c)})
			for _, other := range []string{b, "a" + b, b + "a", "a" + b + "a", b + b, "a9" + b, strings.Repeat("a", 39) + b, strings.Repeat("a", 40) + b} {
				*name = other
				byTheBook(t, x)
			}
		}
		*name = kept
	}
	isSome := 0
	for c := range 256 * 256 {
		s := string([]byte{byte(c >> 8), byte(c)})
		if byTheBook(t, worded(word(s))) {
			isSome++
		}
	}
	if isSome != 53*63 {
		t.Errorf("%d names of two bytes", isSome)
	}
}

// TestNamesOfEachLength has none of more than 40 bytes.
func TestNamesOfEachLength(t *testing.T) {
	for n := range 100 {
		name := strings.Repeat("N", n)
		x := samples()[0]
		for _, at := range names(&x) {
			kept := *at
			*at = name
			byTheBook(t, x)
			*at = kept
		}
		if is := byTheBook(t, worded(word(name))); is != (n >= 1 && n <= 40) {
			t.Errorf("%d bytes: %v", n, is)
		}
	}
}
