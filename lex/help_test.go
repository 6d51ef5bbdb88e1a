package lex_test

import (
	"strconv"
	"strings"
	"testing"

	"gristmill/api"
	"gristmill/lex"
)

func words() []string {
	return strings.Fields("token type left right nonassoc start prec")
}

func signs() []string { return strings.Fields("%% : ; | ( ) , < >") }

func blanks() []string { return []string{"\t", "\n", "\r", " "} }

func isLetter(c int) bool { return c >= 'a' && c <= 'z' || c >= 'A' && c <= 'Z' || c == '_' }

func isDigit(c int) bool { return c >= '0' && c <= '9' }

func isBlank(c int) bool { return c == 9 || c == 10 || c == 13 || c == 32 }

// isSign tells the signs of one byte.
func isSign(c int) bool { return strings.ContainsRune(":;|(),<>", rune(c)) }

// oneByte is a source of that byte alone, whatever rune it would be.
func oneByte(c int) string { return string([]byte{byte(c)}) }

// spell is what Tokens answers as a text: W, N, A ahead of a kind's text, E for the end, signs as they are, each with its place.
func spell(tokens []api.Token, fault api.Fault) string {
	var out []string
	if fault != (api.Fault{}) {
		out = append(out, "fault "+strconv.Itoa(int(fault.Err))+"@"+strconv.Itoa(fault.At))
	}
	for _, t := range tokens {
		out = append(out, spellOne(t)+"@"+strconv.Itoa(t.At))
	}
	return strings.Join(out, " ")
}

func spellOne(t api.Token) string {
	switch t.Kind {
	case api.TokWord:
		return "W:" + t.Text
	case api.TokName:
		return "N:" + t.Text
	case api.TokSign:
		return t.Text
	case api.TokAction:
		return "A:" + strconv.QuoteToASCII(t.Text)
	case api.TokEnd:
		return "E" + t.Text
	}
	return "kind " + strconv.Itoa(int(t.Kind)) + ":" + t.Text
}

// short is as much of a source as a report needs.
func short(s string) string {
	if len(s) > 80 {
		s = s[:80] + ".."
	}
	return strconv.QuoteToASCII(s)
}

func wants(t *testing.T, s, want string) {
	t.Helper()
	if got := spell(lex.Tokens(s)); got != want {
		t.Errorf("%s (%d bytes): %.200s; wanted %.200s", short(s), len(s), got, want)
	}
}

// noToken is what is told where the token at a place is none.
func noToken(at int) string { return "fault 101@" + strconv.Itoa(at) }

// noByte is what is told where no token begins with the byte at a place.
func noByte(at int) string { return "fault 100@" + strconv.Itoa(at) }

const tooLong = "fault 3@0"

// alone is what is told of a source that is one token, all of it.
func alone(token string, length int) string {
	return token + "@0 E@" + strconv.Itoa(length)
}

// action is what is told of a source that is one action, of that text.
func action(text string) string {
	return alone("A:"+strconv.QuoteToASCII(text), len(text)+2)
}
