package symbols_test

import (
	"slices"
	"strconv"
	"strings"
	"testing"

	"gristmill/api"
)

// ruled is a text of a rule s of so many Alts.
func ruled(alts int) api.Text {
	return api.Text{Rules: []api.Rule{{Name: "s", Alts: make([]api.Alt, alts)}}}
}

func numbered(name string, from, to int) string {
	var names []string
	for i := from; i < to; i++ {
		names = append(names, name+strconv.Itoa(i))
	}
	return strings.Join(names, " ")
}

// full is a text of so many of each, the end, $accept and the first production counted.
func full(terms, nonterms, prods int) string {
	var rules []string
	for i := range nonterms - 1 {
		rules = append(rules, "r"+strconv.Itoa(i)+" ;")
	}
	rules[len(rules)/2] = "s : " + strings.Repeat("| ", prods-2) + ";"
	return "%token " + numbered("A", 1, terms) + " ; %% " + strings.Join(rules, " ")
}

// TestLimits: P14.1's last line; 64 terminals, 64 nonterminals, 128 productions.
func TestLimits(t *testing.T) {
	for _, c := range []struct {
		terms, nonterms, prods int
		taken                  bool
	}{
		{2, 2, 2, true}, {64, 2, 2, true}, {65, 2, 2, false}, {66, 2, 2, false}, {2, 64, 2, true}, {2, 65, 2, false}, {2, 66, 2, false},
		{2, 2, 128, true}, {2, 2, 129, false}, {2, 2, 130, false}, {64, 64, 128, true}, {65, 64, 128, false}, {64, 65, 128, false}, {64, 64, 129, false},
		{63, 63, 127, true}, {63, 65, 127, false}, {63, 66, 3, false}, {60, 64, 200, false}, {65, 65, 129, false}, {500, 500, 500, false}, {64, 1000, 10, false}, {1000, 64, 10, false},
	} {
		s := full(c.terms, c.nonterms, c.prods)
		if !c.taken {
			isFault(t, s, api.ErrMany)
			continue
		}
		x, _ := layOut(s)
		g, fault := byTheBook(t, x)
		if fault != (api.Fault{}) || g.Terms != c.terms || len(g.Symbols) != c.terms+c.nonterms || len(g.Prods) != c.prods {
			t.Errorf("%d terminals, %d nonterminals, %d productions: %v %s", c.terms, c.nonterms, c.prods, fault, short(shown(g)))
		}
	}
}

// TestLimitsOfAllSorts: terminals of all Decls count, once each; productions of all rules.
func TestLimitsOfAllSorts(t *testing.T) {
	a, b, c, d := numbered("A", 0, 16), numbered("B", 0, 16), numbered("C", 0, 16), numbered("D", 0, 15)
	few := "%token <int> " + a + " ; %left " + b + " ; %right " + c + " ; %nonassoc " + d + " ; "
	again := "%left " + a + " ; %token E ; "
	for s, taken := range map[string]bool{
		few + "%% s : ;":                      true,
		few + "%left " + a + " ; %% s : ;":    true,
		few + again + "%% s : ;":              false,
		few + "%token E ; %% s : ;":           false,
		few + "%left E ; %% s : ;":            false,
		few + "%right E ; %% s : ;":           false,
		few + "%nonassoc E ; %% s : ;":        false,
		few + "%type <int> s ; %% s : A0 ;":   true,
		few + "%start s ; %% r : ; s : C15 ;": true,
		"%% s : " + strings.Repeat("| ", 63) + "; t : " + strings.Repeat("| ", 62) + ";":                 true,
		"%% s : " + strings.Repeat("| ", 63) + "; t : " + strings.Repeat("| ", 63) + ";":                 false,
		"%% s : " + strings.Repeat("| ", 63) + "; u ; t : " + strings.Repeat("| ", 61) + "; v : ;":       true,
		"%% s : " + strings.Repeat("| ", 63) + "; u ; t : " + strings.Repeat("| ", 61) + "; v : ; w : ;": false,
	} {
		x, _ := layOut(s)
		if _, fault := byTheBook(t, x); taken != (fault == api.Fault{}) || !taken && fault != (api.Fault{Err: api.ErrMany}) {
			t.Errorf("%s: %v", short(s), fault)
		}
	}
}

// TestManyComesLast: behind each fault of the five times, wherever this is.
func TestManyComesLast(t *testing.T) {
	for _, many := range []string{"", full(70, 2, 2), full(2, 70, 2), full(2, 2, 135)} {
		decls, rules, _ := strings.Cut(many, "%%")
		for _, p := range parts() {
			if p.time < 6 {
				isFault(t, decls+p.decls+" %% "+rules+" s0 : ; "+p.rules, p.err)
			}
		}
	}
}

// TestTenWords: of each Alt.
func TestTenWords(t *testing.T) {
	for n := range 14 {
		for _, row := range []string{strings.Repeat(" A", n), strings.Repeat(" s", n), strings.Repeat(" s A", n/2) + strings.Repeat(" A", n%2)} {
			s := "%token A ; %% s : A | s | @" + row + " %prec A {x}1 | " + row + " ; t : s ;"
			x, place := layOut(s)
			g, fault := byTheBook(t, x)
			if n > 10 && fault != (api.Fault{Err: api.ErrMany, At: place}) || n <= 10 && (fault.Err != api.OK || len(g.Prods[3].Right) != n) {
				t.Errorf("%d words: %v", n, fault)
			}
		}
	}
}

// TestGreatTexts: R1; texts of many parts.
func TestGreatTexts(t *testing.T) {
	const many = 1 << 18
	var names []string
	rules := make([]api.Rule, many)
	for i := range many {
		names = append(names, "N"+strconv.Itoa(i))
		rules[i] = api.Rule{Name: "r" + strconv.Itoa(i), At: i}
	}
	decl := func(kind, of string, names ...string) api.Text {
		return api.Text{Decls: []api.Decl{{Kind: kind, Type: of, Names: names, At: 5}}, Rules: rules[:1]}
	}
	twice := append(slices.Clone(names), names[many-1])
	few := slices.Repeat([]api.Decl{{Kind: "left"}, {Kind: "type", Type: "int"}, {Kind: "token"}}, many)
	words := slices.Repeat([]api.Word{{Name: "r0"}}, many)
	alts := slices.Repeat([]api.Alt{{Words: words[:10]}}, many)
	levels := api.Text{Decls: append(few, api.Decl{Kind: "right", Names: []string{"A"}}), Rules: rules[:1]}
	for i, c := range []struct {
		x    api.Text
		want api.Fault
	}{
		{decl("token", "", names...), api.Fault{Err: api.ErrMany}},
		{decl("left", "", names...), api.Fault{Err: api.ErrMany}},
		{decl("token", "", twice...), api.Fault{Err: api.ErrTwice, At: 5}},
		{decl("right", "", twice...), api.Fault{Err: api.ErrTwice, At: 5}},
		{decl("type", "int", names...), api.Fault{Err: api.ErrSymbol, At: 5}},
		{decl("start", "", names...), api.Fault{Err: api.ErrStart, At: 5}},
		{decl("none", "", names...), api.Fault{Err: api.ErrArg, At: 5}},
		{api.Text{Rules: rules}, api.Fault{Err: api.ErrMany}},
		{api.Text{Rules: append(slices.Clone(rules), rules[many-1])}, api.Fault{Err: api.ErrTwice, At: many - 1}},
		{api.Text{Rules: []api.Rule{{Name: "r0", Alts: alts}}}, api.Fault{Err: api.ErrMany}},
		{api.Text{Rules: []api.Rule{{Name: "r0", Alts: []api.Alt{{Words: words, At: 6}}}}}, api.Fault{Err: api.ErrMany, At: 6}},
		{api.Text{Rules: []api.Rule{{Name: "r1", Alts: alts}}}, api.Fault{Err: api.ErrSymbol}},
		{api.Text{Rules: []api.Rule{{Name: "r0", Params: names, At: 7}}}, api.Fault{Err: api.ErrParams, At: 7}},
		{levels, api.Fault{}},
	} {
		isOnce(t, strconv.Itoa(i), c.x, c.want)
	}
	if g := isOnce(t, "levels", levels, api.Fault{}); g.Symbols[1] != (api.Symbol{Name: "A", Level: many + 1, Assoc: api.AssocRight}) {
		t.Error(g.Symbols[1])
	}
}

// TestLongTexts: R1; names and actions of any length, words of any depth.
func TestLongTexts(t *testing.T) {
	long := strings.Repeat("n", 1<<20)
	x := api.Text{
		Decls: []api.Decl{{Kind: "token", Type: "int", Names: []string{long}}, {Kind: "type", Type: "bool", Names: []string{long + "r"}}, {Kind: "start", Names: []string{long + "r"}}},
		Rules: []api.Rule{{Name: long + "r", Alts: []api.Alt{{Words: []api.Word{{Name: long}, {Name: long + "r"}}, Prec: long, Has: true, Action: long, Where: 1<<63 - 1}}}},
	}
	byTheBook(t, x)
	isOnce(t, "a long Kind", api.Text{Decls: []api.Decl{{Kind: long, At: 3}}}, api.Fault{Err: api.ErrArg, At: 3})
	isOnce(t, "a long Type", api.Text{Decls: []api.Decl{{Kind: "token", Type: long, At: 3}}}, api.Fault{Err: api.ErrType, At: 3})
	x.Rules[0].Alts[0].Words[1].Name = long + "s"
	x.Rules[0].Alts[0].Words[1].At = 4
	isOnce(t, "a long name", x, api.Fault{Err: api.ErrSymbol, At: 4})

	w := api.Word{Name: long}
	for range 1 << 20 {
		w = api.Word{Name: "f", Args: []api.Word{w}}
	}
	w.At = 8
	isOnce(t, "a deep word", api.Text{Rules: []api.Rule{{Name: "f", Alts: []api.Alt{{Words: []api.Word{{Name: "f"}, w}}}}}}, api.Fault{Err: api.ErrParams, At: 8})
	row := []api.Word{{Name: "f", At: 9}}
	row[0].Args = row
	isOnce(t, "a word within itself", api.Text{Rules: []api.Rule{{Name: "f", Alts: []api.Alt{{Words: row}}}}}, api.Fault{Err: api.ErrParams, At: 9})
}
