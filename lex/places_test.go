package lex_test

import (
	"slices"
	"strconv"
	"strings"
	"testing"
	"unsafe"

	"gristmill/api"
	"gristmill/lex"
)

func TestPlaceOfTheFirstFault(t *testing.T) {
	for s, want := range map[string]string{
		"= %foo {": noByte(0), "%foo = {": noToken(0), "{ = %foo": noToken(0), "a = %foo": noByte(2), "a %foo =": noToken(2), "a\n\n %foo": noToken(4), "// = \n%foo": noToken(6), "//\n=": noByte(3), "%token\t1": noByte(7), "%tokens 1": noToken(0), "a 1 %": noByte(2), "a % 1": noToken(2),
		"{ok} = {": noByte(5), "{ok} { =": noToken(5), "{ok} {\"\n\"} =": noToken(5), "{\"\n\"} {": noToken(0), "{a{b}": noToken(0), "a{b{c}": noToken(1), "%%{": noToken(2), "%%%": noToken(2), "%%%%%": noToken(4), "; : = |": noByte(4), "(,)<>}": noByte(5), "\"": noByte(0), "\"a\" {": noByte(0), "{}\"\n": noByte(2),
		"%token N; }": noByte(10), "e: NUM /* */": noByte(7), "e: 'a'": noByte(3), "e = NUM": noByte(2), "e ::= NUM": noByte(4), "e: [NUM]": noByte(3), "e: NUM*": noByte(6), "e: NUM?": noByte(6), "e: \"if\"": noByte(3), "%union { int a; }": noToken(0), "%token-x": noByte(6), "%token.": noByte(6), "a.b": noByte(1), "a$": noByte(1), "$1": noByte(0), "a1 1a": noByte(3),
	} {
		wants(t, s, want)
	}
	long := strings.Repeat("a", 41)
	for s, want := range map[string]string{
		long + " = {": noToken(0), "= " + long: noByte(0), "%foo " + long: noToken(0), "a " + long + " %foo": noToken(2), "{ " + long + " } =": noByte(46), "// " + long + "\n" + long: noToken(45), "%" + long: noToken(0), "%%" + long: noToken(2), "{\"" + long + "\n": noToken(0), long + "=": noToken(0),
	} {
		wants(t, s, want)
	}
}

func TestBytesBeyond127(t *testing.T) {
	for c := 128; c < 256; c++ {
		s := oneByte(c)
		for source, want := range map[string]string{
			s: noByte(0), s + "a": noByte(0), "a" + s: noByte(1), "a" + s + "b": noByte(1), "a " + s: noByte(2), "%" + s: noToken(0), "%%" + s: noByte(2), "%token" + s: noByte(6), "%to" + s + "ken": noToken(0), ";" + s: noByte(1), "{}" + s: noByte(2), s + "{}": noByte(0), "/" + s: noByte(0), s + "//": noByte(0), "\n" + s: noByte(1), strings.Repeat("a", 40) + s: noByte(40), strings.Repeat("a", 41) + s: noToken(0),
			"//" + s: "E@3", "//" + s + "\n" + s: noByte(4), "//" + s + "\na": "N:a@4 E@5", "{" + s: noToken(0), "{\"" + s: noToken(0), "{\"" + s + "\n\"}": noToken(0), "{\"\\" + s: noToken(0), "{//" + s: noToken(0), "{//" + s + "}": noToken(0),
		} {
			wants(t, source, want)
		}
		for _, around := range []string{"?", "a?b", "?{?}?", "\"?\"", "\"\\?\"", "\"\\\\?\"", "//?\n", "?//\n?", "/?/", "\\?", "?\"?\"?"} {
			text := strings.ReplaceAll(around, "?", s)
			wants(t, "{"+text+"}", action(text))
		}
	}
	for s, want := range map[string]string{
		"\xef\xbb\xbf%token": noByte(0), "caf\u00e9": noByte(3), "a\u00a0b": noByte(1), "a\u2028b": noByte(1), "a\u3000": noByte(1), "// \u2028a\n": "E@8", "// \u0085a": "E@6", "{\u201c}\u201d": noByte(5), "\uff5b\uff5d": noByte(0), "{\"\u2028\"}": action("\"\u2028\""), "{\u00e9}": action("\u00e9"), "{//\u010a}": noToken(0), "\u0141": noByte(0), "\u2c62": noByte(0),
	} {
		wants(t, s, want)
	}
}

func TestPlacesRise(t *testing.T) {
	s := "%token <int> N, M;\n// c\n%left PLUS;\n%%\ne(X): X { a } | { } // d\n;\n"
	for ahead := range 20 {
		for tail := range 3 {
			source := strings.Repeat(" ", ahead) + s + strings.Repeat("\n", tail)
			tokens, fault := lex.Tokens(source)
			if fault != (api.Fault{}) || len(tokens) != 23 {
				t.Fatalf("%s: %s", short(source), spell(tokens, fault))
			}
			least := 0
			for _, token := range tokens {
				written := map[api.TokenKind]string{api.TokWord: "%" + token.Text, api.TokAction: "{" + token.Text + "}"}[token.Kind]
				if written == "" {
					written = token.Text
				}
				if token.At < least || !strings.HasPrefix(source[token.At:], written) {
					t.Errorf("%s: %s@%d", short(source), spellOne(token), token.At)
				}
				least = token.At + len(written)
			}
			if end := tokens[22]; end != (api.Token{Kind: api.TokEnd, At: len(source)}) {
				t.Errorf("%s: ends with %v", short(source), end)
			}
		}
	}
}

func TestSourcesOfManyTokens(t *testing.T) {
	for _, c := range []struct{ unit, token string }{{" ", ""}, {"\n", ""}, {"//  ", ""}, {"//\n\n", ""}, {"//{\n", ""}, {";", ";"}, {"%%", "%%"}, {"a ", "N:a"}, {"a\r\n\t", "N:a"}, {"{}", "A:\"\""}, {"{{}}", "A:\"{}\""}, {"%left //\n", "W:left"}, {"{\"}\"}//\n", "A:\"\\\"}\\\"\""}} {
		many := 1 << 16 / len(c.unit)
		s := strings.Repeat(c.unit, many)
		s += strings.Repeat(" ", 1<<16-len(s))
		want := []string{}
		for i := 0; i < many && c.token != ""; i++ {
			want = append(want, c.token+"@"+strconv.Itoa(i*len(c.unit)))
		}
		wants(t, s, strings.Join(append(want, "E@65536"), " "))
		for _, longer := range []string{s + " ", " " + s, s + "\n", s + "=", s + "{", "//" + s, s + s, strings.Repeat(s, 100)} {
			wants(t, longer, tooLong)
		}
	}
}

func TestSourcesOfOneToken(t *testing.T) {
	const most = 1 << 16
	for _, c := range []struct{ head, unit, tail, want string }{
		{"", "a", "", noToken(0)}, {"_", "9", "", noToken(0)}, {"%", "a", "", noToken(0)}, {"%token", "0", "", noToken(0)}, {" ", "a", " ", noToken(1)},
		{"//", "a", "", "E@65536"}, {"//", "/", "", "E@65536"}, {"//", "\xff", "\n", "E@65536"}, {"//", "{", "\n", "E@65536"}, {"//", "=", "\n=", noByte(most - 1)}, {"//", "a", "\n%", noToken(most - 1)}, {"//", "a", "\na", "N:a@65535 E@65536"},
		{"{", "a", "", noToken(0)}, {"{", "{", "}", noToken(0)}, {"{\"", "}", "", noToken(0)}, {"{//", "}", "", noToken(0)}, {"{\"", "\\", "", noToken(0)}, {"{", "\\", "", noToken(0)}, {"{\"", "a", "\n", noToken(0)},
		{"", " ", "=", noByte(most - 1)}, {"", "\n", "%", noToken(most - 1)}, {"", " ", "{", noToken(most - 1)}, {"", "\r", "{}", "A:\"\"@65534 E@65536"}, {"", "\t", "a", "N:a@65535 E@65536"}, {"a", " ", "", "N:a@0 E@65536"},
		{"", "=", "", noByte(0)}, {"", "}", "", noByte(0)}, {"", "/", "", "E@65536"}, {"", "\"", "", noByte(0)}, {"", "%", "=", noToken(most - 2)},
	} {
		many := most - len(c.head) - len(c.tail)
		wants(t, c.head+strings.Repeat(c.unit, many)+c.tail, c.want)
		wants(t, c.head+strings.Repeat(c.unit, many+1)+c.tail, tooLong)
	}
	deep := strings.Repeat("{", most/2-1) + strings.Repeat("}", most/2-1)
	for _, text := range []string{deep, strings.Repeat("a", most-2), strings.Repeat("{}", most/2-1), "\"" + strings.Repeat("}", most-4) + "\"", "\"" + strings.Repeat("\\\"", most/2-2) + "\"", "//" + strings.Repeat("\"", most-5) + "\n", strings.Repeat("//\n", 21844) + "  ", strings.Repeat("\n", most-2), strings.Repeat("/ ", most/2-1)} {
		wants(t, "{"+text+"}", action(text))
		wants(t, "{"+text+"} ", tooLong)
		wants(t, " {"+text+"}", tooLong)
		wants(t, "{"+text, noToken(0))
	}
	wants(t, strings.Repeat("{", most/2)+strings.Repeat("}", most/2-1), noToken(0))
	wants(t, strings.Repeat("{", most/2-1)+strings.Repeat("}", most/2), noByte(most-2))
}

func TestTooLongComesFirst(t *testing.T) {
	spaces := strings.Repeat(" ", 1<<16)
	for _, s := range []string{"=" + spaces, "%foo" + spaces, "{" + spaces, spaces + "=", strings.Repeat("a", 1<<16+1), strings.Repeat("=", 1<<16+1), strings.Repeat("\xff", 1<<20)} {
		wants(t, s, tooLong)
	}
	wants(t, "="+spaces[1:], noByte(0))
	wants(t, spaces[1:]+"=", noByte(1<<16-1))
}

func TestTokensAreNewMemory(t *testing.T) {
	s := "%token <int> N; %% e: N { f(\"}\") } | ;"
	first, _ := lex.Tokens(s)
	kept := slices.Clone(first)
	for i := range first {
		first[i] = api.Token{Kind: api.TokInt, Text: "?", At: -1}
	}
	clear(append(first, first...))
	if second, fault := lex.Tokens(s); !slices.Equal(second, kept) {
		t.Errorf("%s; wanted %s", spell(second, fault), spell(kept, api.Fault{}))
	}
}

// TestTokensKeepNoSource writes over the bytes of a source that is told already.
func TestTokensKeepNoSource(t *testing.T) {
	for _, source := range []string{"%token <int> N; %% e: N { f(\"}\") // }\n} | list(X, Y) ;", "abc", "%token", "%%", ";", "{abc}", "{{a}{b}}"} {
		b := []byte(source)
		tokens, fault := lex.Tokens(unsafe.String(&b[0], len(b)))
		if string(b) != source {
			t.Errorf("%s changed: %q", short(source), b)
		}
		for i := range b {
			b[i] = '?'
		}
		want, _ := lex.Tokens(source)
		if len(tokens) < 2 || !slices.Equal(tokens, want) {
			t.Errorf("%s; wanted %s", spell(tokens, fault), spell(want, fault))
		}
	}
}

func TestFaultsTellNoTokens(t *testing.T) {
	for _, s := range []string{"=", "a =", "%token N; %% e: N { f() } =", "a b c %foo", "{a} {", "{a} b {\"\n\"}", strings.Repeat("a ", 100) + strings.Repeat("b", 41), strings.Repeat(" ", 1<<16+1)} {
		if tokens, fault := lex.Tokens(s); len(tokens) != 0 || fault.Err == api.OK {
			t.Errorf("%s: %s", short(s), spell(tokens, fault))
		}
	}
}

// TestTokensAlikeEachTime has faults between, which leave nothing behind.
func TestTokensAlikeEachTime(t *testing.T) {
	s := "%token <int> N; %% e: N { f(\"}\") { } } | list(X, Y) ;"
	want := spell(lex.Tokens(s))
	for _, other := range []string{"=", "{{{", "{\"", "%foo", "", s + "{", s + s, strings.Repeat(s, 5000)} {
		told := spell(lex.Tokens(other))
		wants(t, s, want)
		wants(t, other, told)
	}
}
