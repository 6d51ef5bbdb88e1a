package read_test

import (
	"strconv"
	"strings"
	"testing"

	"gristmill/api"
	"gristmill/read"
)

func at(place int) string { return "@" + strconv.Itoa(place) }

// spell is what Text answers as a text: of a Decl its Kind, place, Type, Names; of a Rule its Name, place, Params, and of each Alt / and its place, its Words, %prec, action, with the Where of that.
func spell(text api.Text, fault api.Fault) string {
	var out []string
	if fault != (api.Fault{}) {
		out = append(out, "fault "+strconv.Itoa(int(fault.Err))+at(fault.At))
	}
	for _, d := range text.Decls {
		out = append(out, spellDecl(d))
	}
	for _, r := range text.Rules {
		out = append(out, spellRule(r))
	}
	return strings.Join(out, "; ")
}

func spellDecl(d api.Decl) string {
	out := "%" + d.Kind + at(d.At)
	if d.Type != "" {
		out += " <" + d.Type + ">"
	}
	return out + " " + strings.Join(d.Names, " ")
}

func spellRule(r api.Rule) string {
	out := r.Name + at(r.At)
	if len(r.Params) > 0 {
		out += " (" + strings.Join(r.Params, " ") + ")"
	}
	for _, a := range r.Alts {
		out += " " + spellAlt(a)
	}
	return out
}

func spellAlt(a api.Alt) string {
	out := "/" + at(a.At)
	for _, w := range a.Words {
		out += " " + spellWord(w)
	}
	if a.Prec != "" {
		out += " %prec " + a.Prec
	}
	if a.Has {
		return out + " {" + strconv.QuoteToASCII(a.Action) + "}" + at(a.Where)
	}
	if a.Action != "" || a.Where != 0 {
		out += " no action, but " + strconv.QuoteToASCII(a.Action) + at(a.Where)
	}
	return out
}

func spellWord(w api.Word) string {
	var args []string
	for _, arg := range w.Args {
		args = append(args, spellWord(arg))
	}
	if len(args) == 0 {
		return w.Name + at(w.At)
	}
	return w.Name + at(w.At) + "(" + strings.Join(args, " ") + ")"
}

// short is as much of a source as a report needs.
func short(s string) string {
	if len(s) > 200 {
		s = s[:200] + ".."
	}
	return strconv.QuoteToASCII(s)
}

func wants(t *testing.T, s, want string) {
	t.Helper()
	if got := spell(read.Text(s)); got != want {
		t.Errorf("%s (%d bytes): %.400s; wanted %.400s", short(s), len(s), got, want)
	}
}

// noText is what is told where the token at a place may not stand.
func noText(place int) string { return "fault 102" + at(place) }

// tooDeep is what is told where the word at a place stands in too many others.
func tooDeep(place int) string { return "fault 103" + at(place) }

const tooLong = "fault 3@0"

// nested are words in one another, so many around the innermost one.
func nested(around int) string {
	return strings.Repeat("a(", around) + "b" + strings.Repeat(")", around)
}

// nestedAt is such words as they are told, if they begin at that place.
func nestedAt(around, place int) string {
	var out strings.Builder
	for i := range around {
		out.WriteString("a" + at(place+2*i) + "(")
	}
	return out.String() + "b" + at(place+2*around) + strings.Repeat(")", around)
}

func words() []string {
	return strings.Fields("token type left right nonassoc start prec")
}

// others are tokens of each kind, also names and actions of texts that words and signs have.
func others() []string {
	tokens := strings.Fields("%% : ; | ( ) , < > a token type left prec {} {;} {%%} {:} {|} {(} {)} {,} {<} {>} {token} {type} {prec} {a}")
	for _, w := range words() {
		tokens = append(tokens, "%"+w)
	}
	return tokens
}

// beginsWith wants what is told of a source that is too much to be written out.
func beginsWith(t *testing.T, s, head string) {
	t.Helper()
	if got := spell(read.Text(s)); !strings.HasPrefix(got, head) {
		t.Errorf("%s (%d bytes): %.400s; wanted %.400s ..", short(s), len(s), got, head)
	}
}
