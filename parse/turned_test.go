package parse_test

import (
	"strings"
	"testing"

	"gristmill/api"
	"gristmill/parse"
	"gristmill/scan"
)

// byTheBook asks for the fault of a source alone.
func byTheBook(t *testing.T, b *book, start, s string) {
	t.Helper()
	read := map[string]reader{"file": parse.File, "action": parse.Action}[start]
	_, got := read(s)
	want := b.of(start, s)
	if got != want && (want.Err != api.OK || got.Err != api.ErrDeep) {
		t.Errorf("%s %s: %v, not %v", start, short(s), got, want)
	}
}

// turned asks for the faults of sources that are cut behind a token, or have one more, one less, or another one there.
func turned(t *testing.T, b *book, start, s string, others []string) {
	t.Helper()
	tokens := strings.Fields(s)
	for i := range len(tokens) + 1 {
		before := strings.Join(tokens[:i], " ") + " "
		byTheBook(t, b, start, before)
		byTheBook(t, b, start, strings.TrimSpace(before))
		behind := " " + strings.Join(tokens[i:], " ")
		byTheBook(t, b, start, before+"\n"+behind)
		if i < len(tokens) {
			byTheBook(t, b, start, before+strings.Join(tokens[i+1:], " "))
		}
		for _, other := range others {
			byTheBook(t, b, start, before+other+behind)
			if i < len(tokens) {
				byTheBook(t, b, start, before+other+" "+strings.Join(tokens[i+1:], " "))
			}
		}
	}
}

func TestTurnedActions(t *testing.T) {
	t.Parallel()
	b := openBook()
	for _, s := range []string{
		"",
		"x := 1",
		"x , y := f ( 1 , 2 , ) ;",
		"x , y . a = y , - x",
		"x [ 0 ] , $1 = f ( )",
		"$$ = $1 [ : 2 ] . a * ( b || c )",
		"{ { } ; f ( ) } ; { x = 1 ; }",
		"var x [ ] int = [ ] p { q { } , 1 , }",
		"var x p ; var y int = 1",
		"if a { } else if b { } else { }",
		"if a == p { } { }",
		"if f ( p { a : 1 } ) { f ( ) }",
		"if [ ] p { q { } } [ 0 ] { }",
		"if ( p { } ) . a [ q { } ] == r { }",
		"for { break ; continue }",
		"l : for a { break l ; continue l }",
		"for ( p { } ) { }",
		"switch a { case 1 , p { } : f ( ) ; x = 1 ; default : case \"a\" : { } }",
		"switch [ ] int { } { default : return }",
		"switch { } ",
		"return",
		"return a , p { a : b , c : d , } ; return",
		"x = true && ! false || 1.5 >= - - a % 2",
		"x = ( ( p { } ) )",
	} {
		turned(t, b, "action", s, others())
	}
}

func TestTurnedFiles(t *testing.T) {
	t.Parallel()
	b := openBook()
	for _, s := range []string{
		"package p",
		"package p ; type t struct { } ; type t struct { a int ; b [ ] [ ] t ; } ;",
		"package p ; func f ( ) { } ; func g ( a int , b [ ] t , ) [ ] int { return a } ;",
		"package p ; func f ( a b ) ( int , [ ] string , ) { if a { return 1 , \"a\" } }",
		"package p ; func f ( ) ( a ) { x , y = $1 , 2 }",
	} {
		turned(t, b, "file", s, others())
	}
}

func TestMadeUpSources(t *testing.T) {
	t.Parallel()
	w := newWriter(4)
	for n := range 3000 {
		start := []string{"file", "action"}[n%2]
		tokens := w.tokens(start, 10+n%120)
		if start == "file" {
			tokens = slicesWithout(tokens, "$")
		}
		byTheBook(t, w.book, start, w.spaced(tokens))
		for range 5 {
			i := w.chance.Intn(len(tokens) + 1)
			other := []string{w.one(strings.Join(others(), " "))}
			j := min(len(tokens), i+w.chance.Intn(3))
			byTheBook(t, w.book, start, strings.Join(append(append(append([]string{}, tokens[:i]...), other[:w.chance.Intn(2)]...), tokens[j:]...), " "))
		}
	}
}

// slicesWithout are the tokens with a name for each that begins so.
func slicesWithout(tokens []string, head string) []string {
	out := make([]string, len(tokens))
	for i, s := range tokens {
		if out[i] = s; strings.HasPrefix(s, head) {
			out[i] = "d"
		}
	}
	return out
}

func TestShortSources(t *testing.T) {
	t.Parallel()
	b := openBook()
	var all func(c *chart, source string, left int)
	all = func(c *chart, source string, left int) {
		for _, other := range others() {
			s := source + other
			tokens, fault := scan.Tokens(s)
			if fault.Err != api.OK {
				t.Fatal(fault)
			}
			columns := c.columns
			read := len(columns) - 1
			want, _ := c.fault(tokens[read:], true)
			if _, got := parse.Action(s); got != want {
				t.Errorf("%s: %v, not %v", short(s), got, want)
			}
			c.columns = columns
			if left > 0 && c.take(class(tokens[read], true)) {
				all(c, s+" ", left-1)
			}
			c.columns = columns
		}
	}
	all(b.start("action"), "", 4)
}
