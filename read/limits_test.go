package read_test

import (
	"strings"
	"testing"

	"gristmill/api"
	"gristmill/read"
)

const most = 1 << 16

// counts is how many of each part a text has.
type counts struct{ decls, names, rules, params, alts, words, actions int }

func count(t api.Text) counts {
	c := counts{decls: len(t.Decls), rules: len(t.Rules)}
	for _, d := range t.Decls {
		c.names += len(d.Names)
	}
	for _, r := range t.Rules {
		c.params += len(r.Params)
		c.alts += len(r.Alts)
		for _, a := range r.Alts {
			c.words += countWords(a.Words)
			if a.Has {
				c.actions++
			}
		}
	}
	return c
}

func countWords(words []api.Word) int {
	sum := len(words)
	for _, w := range words {
		sum += countWords(w.Args)
	}
	return sum
}

// stretched are sources of most bytes: a head, as many units as fit, a tail, and blanks.
func stretched(head, unit, tail string) (string, int) {
	many := (most - len(head) - len(tail)) / len(unit)
	s := head + strings.Repeat(unit, many) + tail
	return s + strings.Repeat(" ", most-len(s)), many
}

func TestTextsAsLongAsMayBe(t *testing.T) {
	b := openBook()
	for _, c := range []struct {
		head, unit, tail string
		each, more       counts
	}{
		{"%%", " ", "", counts{}, counts{}},
		{"//", "a", "\n%%", counts{}, counts{}},
		{"", "//\n", "%%", counts{}, counts{}},
		{"", "%left A;", "%%", counts{decls: 1, names: 1}, counts{}},
		{"", "%token<t>A B;", "%%", counts{decls: 1, names: 2}, counts{}},
		{"%left ", "A ", ";%%", counts{names: 1}, counts{decls: 1}},
		{"%type<t>A", " B", ";%%", counts{names: 1}, counts{decls: 1, names: 1}},
		{"%%", "e:;", "", counts{rules: 1, alts: 1}, counts{}},
		{"%%", "e(X,Y):X|{};", "", counts{rules: 1, params: 2, alts: 2, words: 1, actions: 1}, counts{}},
		{"%%e:", "|", ";", counts{alts: 1}, counts{rules: 1, alts: 1}},
		{"%%e:a", "|a{}", ";", counts{alts: 1, words: 1, actions: 1}, counts{rules: 1, alts: 1, words: 1}},
		{"%%e:", "a ", ";", counts{words: 1}, counts{rules: 1, alts: 1}},
		{"%%e:", "a(b)", ";", counts{words: 2}, counts{rules: 1, alts: 1}},
		{"%%e:", nested(60), ";", counts{words: 61}, counts{rules: 1, alts: 1}},
		{"%%e:a(b", ",c", ");", counts{words: 1}, counts{rules: 1, alts: 1, words: 2}},
		{"%%e:" + strings.Repeat("a(", 60) + "b", ",c", strings.Repeat(")", 60) + ";", counts{words: 1}, counts{rules: 1, alts: 1, words: 61}},
		{"%%e(X", ",Y", "):;", counts{params: 1}, counts{rules: 1, params: 1, alts: 1}},
		{"%%e:{", "a", "};", counts{}, counts{rules: 1, alts: 1, actions: 1}},
		{"%%e:{", "{}", "};", counts{}, counts{rules: 1, alts: 1, actions: 1}},
	} {
		s, many := stretched(c.head, c.unit, c.tail)
		want := counts{many*c.each.decls + c.more.decls, many*c.each.names + c.more.names, many*c.each.rules + c.more.rules, many*c.each.params + c.more.params, many*c.each.alts + c.more.alts, many*c.each.words + c.more.words, many*c.each.actions + c.more.actions}
		text, fault := read.Text(s)
		if got := count(text); got != want || fault != (api.Fault{}) {
			t.Errorf("%s: %v, %v; wanted %v", short(s), fault, got, want)
		}
		if !byTheBook(t, b, s) {
			t.Errorf("%s is no text", short(s))
		}
		for _, longer := range []string{s + " ", " " + s, s + ";", s + "#", "\n" + s + "\n", s + s} {
			wants(t, longer, tooLong)
		}
		byTheBook(t, b, s[:most/2])
		byTheBook(t, b, s[:most-1]+";")
		byTheBook(t, b, s[:most-1]+"#")
		byTheBook(t, b, s[:most/2]+" ) "+s[most/2+3:])
	}
}

// TestLongSourcesThatAreNoTexts: each is answered, whatever it is.
func TestLongSourcesThatAreNoTexts(t *testing.T) {
	for _, c := range []struct{ head, unit, tail, want string }{
		{"", " ", "", noText(most)},
		{"%%e:", " ", "", noText(most)},
		{"%%e:", "a ", "", noText(most)},
		{"%left ", "A ", "", noText(most)},
		{"%%e(X", ",X", "", noText(most)},
		{"%%e:a(b", ",b", "", noText(most)},
		{"%%e:", "|", "", noText(most)},
		{"%%e:", "%prec P ", "", noText(12)},
		{"%%e:", "{}", "", noText(6)},
		{"%%e:a", "(", "", noText(6)},
		{"%%e:", "(", "", noText(4)},
		{"%%e:", ")", "", noText(4)},
		{"%%e:", ",", "", noText(4)},
		{"%%e:", "a(", "", tooDeep(126)},
		{"%%e:", "a (", "", tooDeep(187)},
		{"%%e:", "a(b,", "", tooDeep(4 + 4*60 + 2)},
		{"%%e:", "a(b(c),", "", tooDeep(4 + 7*59 + 4)},
		{"%%e:;", ";", "", noText(5)},
		{"", ";", "", noText(0)},
		{"", "%%", "", noText(2)},
		{"", "<", "", noText(0)},
		{"", "a ", "", noText(0)},
		{"", "{}", "", noText(0)},
		{"", "%token", "", noText(6)},
		{"", "%prec ", "", noText(0)},
		{"", "%left A;", "", noText(most)},
		{"%%", "e:;", "=", "fault 100@65534"},
		{";", "e:;", "=", "fault 100@65533"},
		{";", " ", "{", "fault 101@65535"},
		{"%%e:", "a(", "{", "fault 101@65534"},
		{"", "{", "", "fault 101@0"},
		{"", "%", "", noText(2)},
	} {
		s, _ := stretched(c.head, c.unit, c.tail)
		wants(t, s, c.want)
		wants(t, s+" ", tooLong)
		wants(t, s+s, tooLong)
	}
	for _, unit := range []string{"\x00", "a", "a(", "\xff", "{", "%%", "%left A;"} {
		wants(t, strings.Repeat(unit, most+1), tooLong)
	}
}
