package write_test

import (
	"regexp"
	"slices"
	"strings"
	"testing"

	"gristmill/api"
	"gristmill/lex"
)

// What the document's words say, as plainly as they do.

var (
	bookName = regexp.MustCompile(`\A[a-zA-Z_][a-zA-Z_0-9]{0,39}\z`)
	bookPart = regexp.MustCompile(`\A(?s:"(?:\\.|[^"\\\n])*"|//[^\n]*\n|.)`)
)

func isName(s string) bool { return bookName.MatchString(s) }

func areNames(names []string) bool {
	return !slices.ContainsFunc(names, func(s string) bool { return !isName(s) })
}

// isAction cuts what stands between braces into parts: strings, comments, bytes. A " or a comment that is cut is no part of them.
func isAction(s string) bool {
	open := 1
	for s += "}"; open > 0 && s != ""; {
		part := bookPart.FindString(s)
		if part == "\"" || part == "/" && strings.HasPrefix(s, "//") {
			return false
		}
		s = s[len(part):]
		switch part {
		case "{":
			open++
		case "}":
			open--
		}
	}
	return open == 0 && s == ""
}

func mayBe(t api.Text) bool {
	return !slices.ContainsFunc(t.Decls, func(d api.Decl) bool { return !mayBeDecl(d) }) &&
		!slices.ContainsFunc(t.Rules, func(r api.Rule) bool { return !mayBeRule(r) })
}

func mayBeDecl(d api.Decl) bool {
	if !slices.Contains(strings.Fields("token type left right nonassoc start"), d.Kind) || len(d.Names) == 0 {
		return false
	}
	if d.Type == "" {
		return d.Kind != "type" && areNames(d.Names)
	}
	return (d.Kind == "type" || d.Kind == "token") && isName(d.Type) && areNames(d.Names)
}

func mayBeRule(r api.Rule) bool {
	return isName(r.Name) && areNames(r.Params) && len(r.Alts) > 0 &&
		!slices.ContainsFunc(r.Alts, func(a api.Alt) bool { return !mayBeAlt(a) })
}

func mayBeAlt(a api.Alt) bool {
	return mayBeWords(a.Words, 60) && (a.Prec == "" || isName(a.Prec)) && (a.Has && isAction(a.Action) || !a.Has && a.Action == "")
}

// mayBeWords is told how many words more may be in one another.
func mayBeWords(words []api.Word, left int) bool {
	return len(words) == 0 || left >= 0 && !slices.ContainsFunc(words, func(w api.Word) bool {
		return !isName(w.Name) || !mayBeWords(w.Args, left-1)
	})
}

func bookText(t api.Text) string {
	var lines []string
	for _, d := range t.Decls {
		row := []string{"%" + d.Kind}
		if d.Type != "" {
			row = append(row, "<"+d.Type+">")
		}
		lines = append(lines, strings.Join(append(row, d.Names...), " ")+";")
	}
	lines = append(lines, "%%")
	for _, r := range t.Rules {
		var alts []string
		for _, a := range r.Alts {
			alts = append(alts, bookAlt(a))
		}
		lines = append(lines, r.Name+bookRow(r.Params)+":"+strings.Join(alts, "\n\t|"), "\t;")
	}
	return strings.Join(lines, "\n") + "\n"
}

func bookAlt(a api.Alt) string {
	row := append([]string{""}, bookWords(a.Words)...)
	if a.Prec != "" {
		row = append(row, "%prec", a.Prec)
	}
	if a.Has {
		row = append(row, "{"+a.Action+"}")
	}
	return strings.Join(row, " ")
}

func bookWords(words []api.Word) []string {
	var out []string
	for _, w := range words {
		out = append(out, w.Name+bookRow(bookWords(w.Args)))
	}
	return out
}

func bookRow(texts []string) string {
	if len(texts) == 0 {
		return ""
	}
	return "(" + strings.Join(texts, ", ") + ")"
}

// byTheBook holds what a text is written as against the document's words; it tells whether the text may be written.
func byTheBook(t *testing.T, x api.Text) bool {
	t.Helper()
	if !mayBe(x) {
		isRefused(t, x)
		return false
	}
	isWritten(t, x, bookText(x))
	return true
}

// TestTheBooksWords holds the names and actions that this file knows against lex.
func TestTheBooksWords(t *testing.T) {
	for _, s := range slices.Concat(noNames(), someNames(), actions(), noActions()) {
		tokens, fault := lex.Tokens(s)
		if got := fault == (api.Fault{}) && tokens[0] == (api.Token{Kind: api.TokName, Text: s}); got != isName(s) {
			t.Errorf("%s: a name: %v", short(s), !got)
		}
		tokens, fault = lex.Tokens("{" + s + "}")
		if got := fault == (api.Fault{}) && tokens[0] == (api.Token{Kind: api.TokAction, Text: s}); got != isAction(s) && len(s)+2 <= api.MaxSource {
			t.Errorf("%s: an action: %v", short(s), !got)
		}
	}
}
