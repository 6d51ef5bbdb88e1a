package scan_test

import (
	"strconv"
	"strings"
	"testing"

	"gristmill/api"
	"gristmill/scan"
)

func words() []string {
	return strings.Fields("break case continue default else for func if package return struct switch type var true false")
}

func foreignWords() []string {
	return strings.Fields("chan const defer fallthrough go goto import interface map range select")
}

func signs() []string {
	return strings.Fields("{ } ( ) [ ] , ; : := . = == != < <= > >= + - * / % ! && ||")
}

func foreignSigns() []string {
	return strings.Fields("++ -- += -= *= /= %= << >> <- /* ...")
}

// spell is what Tokens answers as a text: W, N, I, F, S, D ahead of a kind's text, E for the end, signs as they are, each with its place.
func spell(tokens []api.Token, fault api.Fault) string {
	var out []string
	if fault != (api.Fault{}) {
		out = append(out, "fault "+strconv.Itoa(int(fault.Err))+"@"+strconv.Itoa(fault.At))
	}
	heads := map[api.TokenKind]string{
		api.TokWord: "W:", api.TokName: "N:", api.TokInt: "I:", api.TokFloat: "F:", api.TokString: "S:", api.TokSign: "", api.TokEnd: "E", api.TokDollar: "D:",
	}
	for _, t := range tokens {
		head, ok := heads[t.Kind]
		if !ok {
			head = "kind " + strconv.Itoa(int(t.Kind)) + ":"
		}
		text := t.Text
		if t.Kind == api.TokString {
			text = strconv.QuoteToASCII(text)
		}
		out = append(out, head+text+"@"+strconv.Itoa(t.At))
	}
	return strings.Join(out, " ")
}

// short is as much of a source as a report needs.
func short(s string) string {
	if len(s) > 60 {
		s = s[:60] + ".."
	}
	return strconv.QuoteToASCII(s)
}

func wants(t *testing.T, s, want string) {
	t.Helper()
	if got := spell(scan.Tokens(s)); got != want {
		t.Errorf("%s (%d bytes): %.200s; wanted %.200s", short(s), len(s), got, want)
	}
}

// noToken is what is told where the token at a place is none.
func noToken(at int) string { return "fault 101@" + strconv.Itoa(at) }

func noByte(at int) string { return "fault 100@" + strconv.Itoa(at) }

// alone is what is told of a token that is the only one of a source, at 0, and may end a line.
func alone(token string, length int) string {
	end := "@" + strconv.Itoa(length)
	return token + "@0 ;" + end + " E" + end
}
