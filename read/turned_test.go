package read_test

import (
	"math/rand"
	"slices"
	"strings"
	"testing"

	"gristmill/api"
	"gristmill/lex"
)

// gaps are what may stand between two tokens.
func gaps() []string {
	return []string{" ", "\n", "\t", "\r", "\r\n", "  ", "//\n", " // ; %% } { a\n", "\n// \" \n//\n\t"}
}

// full are texts that have all that there is; blanks stand between all their tokens, and nowhere else.
func full() []string {
	return []string{
		"%token < int > A B ; %token C ; %type < bool > e f ; %left A ; %right B C ; %nonassoc D ; %start e ; %% e ( X , Y ) : e ( X , f ( Y ) ) A %prec B {$$=$1} | ; f : {} ;",
		"%left a ; %% a : a | a ( a ) %prec a | %prec a {;} | {} | a {a} ; a ( a ) : | ;",
		"%type < type > type ; %% prec : prec ( left ) %prec prec {prec} ;",
		"%% a : b ( c ( d , e ( f ) , g ) , h ) i ( j ) ; k : l ;",
		"%start a b c ; %%",
		"%%",
	}
}

// TestTurnedTexts has texts that are cut behind each token, or have one more, one less, one twice, two turned about, or another one there.
func TestTurnedTexts(t *testing.T) {
	b, chance := openBook(), rand.New(rand.NewSource(1))
	for _, s := range full() {
		if !byTheBook(t, b, s) {
			t.Errorf("%s is no text", short(s))
		}
		tokens := strings.Fields(s)
		turn := func(rows ...[]string) {
			row := slices.Concat(rows...)
			byTheBook(t, b, strings.Join(row, " "))
			byTheBook(t, b, strings.Join(row, gaps()[chance.Intn(len(gaps()))])+gaps()[chance.Intn(len(gaps()))])
		}
		for i := range len(tokens) + 1 {
			head, tail := tokens[:i], tokens[i:]
			turn(head)
			for _, other := range others() {
				turn(head, []string{other})
				turn(head, []string{other}, tail)
				if len(tail) > 0 {
					turn(head, []string{other}, tail[1:])
				}
			}
			if len(tail) > 0 {
				turn(head, tail[1:])
				turn(head, tail[:1], tail)
			}
			if len(tail) > 1 {
				turn(head, tail[1:2], tail[:1], tail[2:])
				turn(head, tail[2:])
			}
			for j := range tail {
				turn(head, tail[j:])
				turn(head, tail[:j], tail)
			}
		}
	}
}

// TestShortSources has all sources of tokens such that all of them but the last one are the beginning of a text.
func TestShortSources(t *testing.T) {
	b := openBook()
	texts := 0
	var all func(l look, source string, left int)
	all = func(l look, source string, left int) {
		seen := map[string]bool{}
		for _, other := range others() {
			if byTheBook(t, b, source+other) {
				texts++
			}
			tokens, _ := lex.Tokens(other)
			next, _, ok := l.take(tokens[0])
			if of := class(tokens[0]); ok && left > 0 && !seen[of] {
				seen[of] = true
				all(next, source+other+" ", left-1)
			}
		}
	}
	all(b.look(), "", 7)
	all(afterwards(t, b, "%token"), "%token ", 7)
	all(afterwards(t, b, "%% e :"), "%% e : ", 6)
	all(afterwards(t, b, "%% e : a ( b"), "%% e : a ( b ", 6)
	all(afterwards(t, b, "%% e : a ( b , c ( d )"), "%% e : a ( b , c ( d ) ", 6)
	if texts < 1000 {
		t.Errorf("only %d of them are texts", texts)
	}
}

// afterwards is the look behind the tokens of a source.
func afterwards(t *testing.T, b book, s string) look {
	t.Helper()
	tokens, fault := lex.Tokens(s)
	l, ok := b.look(), fault == (api.Fault{})
	for _, token := range tokens[:len(tokens)-1] {
		next, _, may := l.take(token)
		l, ok = next, ok && may
	}
	if !ok {
		t.Fatalf("%s is no beginning", short(s))
	}
	return l
}

// TestFaultsOfTokens: what is no token is told of, wherever it stands.
func TestFaultsOfTokens(t *testing.T) {
	b := openBook()
	wrong := []string{"=", "}", "\"", "/", "1", "\xff", "%foo", "%", "{", "{\"\n\"}", "{{}", strings.Repeat("a", 41)}
	for _, s := range append(full(), ";", "%% ; ;", "%prec a", "%% e : ( ) , a", "a", "", "%% e : "+nested(61)+" ;") {
		tokens := strings.Fields(s)
		for i := range len(tokens) + 1 {
			for _, w := range wrong {
				head := strings.Join(tokens[:i], " ") + " "
				tail := " " + strings.Join(tokens[i:], " ")
				_, want := lex.Tokens(head + w + tail)
				if want.Err != api.ErrByte && want.Err != api.ErrToken {
					t.Errorf("%s: the tokens have the fault %v", short(head+w+tail), want)
				}
				wants(t, head+w+tail, spell(api.Text{}, want))
				byTheBook(t, b, head+w)
			}
		}
	}
	for s, want := range map[string]string{"#": "fault 100@0", "; #": "fault 100@2", "%% ; %foo": "fault 101@5", "a {": "fault 101@2", "%% e: a a( {": "fault 101@11", "%prec %foo": "fault 101@6", "%token ; =": "fault 100@9", "%% e: =": "fault 100@6", "%% %% \"": "fault 100@6", "%foo ;": "fault 101@0"} {
		wants(t, s, want)
	}
}
