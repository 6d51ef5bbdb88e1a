package expand_test

import (
	"testing"

	"gristmill/api"
)

// TestDecls: P13.2; of the Kind type a template's Name stands for the texts of all that were wanted of it.
func TestDecls(t *testing.T) {
	const rules = " %% s: g(f(A)) f(B) | h(A) f(A); f(X): g(X); g(X): X; h(X): f(C); none(X): X;"
	const told = " %% s: g(f(A)) f(B) | h(A) f(A); f(A): g(A); g(f(A)): f(A); f(B): g(B); h(A): f(C); g(A): A; g(B): B; f(C): g(C); g(C): C;"
	for _, c := range [][2]string{
		{"%type <int> s;", "%type <int> s;"},
		{"%type <int> f;", "%type <int> f(A) f(B) f(C);"},
		{"%type <int> g;", "%type <int> g(f(A)) g(A) g(B) g(C);"},
		{"%type <int> h;", "%type <int> h(A);"},
		{"%type <int> none;", "%type <int>;"},
		{"%type <int> none none;", "%type <int>;"},
		{"%type <T> A none h s g x;", "%type <T> A h(A) s g(f(A)) g(A) g(B) g(C) x;"},
		{"%type <int> s none s;", "%type <int> s s;"},
		{"%type <int> h f h;", "%type <int> h(A) f(A) f(B) f(C) h(A);"},
		{"%type <int> f f;", "%type <int> f(A) f(B) f(C) f(A) f(B) f(C);"},
		{"%type <f> f; %type <f> f;", "%type <f> f(A) f(B) f(C); %type <f> f(A) f(B) f(C);"},
		{"%type <int> X A g x;", "%type <int> X A g(f(A)) g(A) g(B) g(C) x;"},
		// In another Kind it stays.
		{"%token <f> f s none;", "%token <f> f s none;"},
		{"%token f h none;", "%token f h none;"},
		{"%left f A;", "%left f A;"},
		{"%right s f f;", "%right s f f;"},
		{"%nonassoc none h;", "%nonassoc none h;"},
		{"%start f;", "%start f;"},
		{"%start none; %type <f> h; %left h; %type <g> none; %token A;", "%start none; %type <f> h(A); %left h; %type <g>; %token A;"},
	} {
		isTold(t, c[0]+rules, c[1]+told)
	}
	isTold(t, "%type <int> f s; %token f; %%", "%type <int> f s; %token f; %%")
	isTold(t, "%type <int> f s; %% f: s;", "%type <int> f s; %% f: s;")
	isTold(t, "%type <int> s f; %% f(X): s;", "%type <int> s; %%")
}

// TestOtherKinds: no Kind but type itself is one.
func TestOtherKinds(t *testing.T) {
	f := template(rule("f", alt(word("X"))), "X")
	for _, kind := range []string{"", "Type", "types", "typ", "%type", "type ", " type", "token", "left", "right", "nonassoc", "start", "f", "\x00"} {
		x := worded([]api.Word{word("f", word("A"))}, f)
		x.Decls = []api.Decl{{Kind: kind, Names: []string{"f", "A", "f"}}, {Kind: "type", Names: []string{"f"}}}
		told, fault := byTheBook(t, x)
		if fault.Err != api.OK || len(told.Decls[0].Names) != 3 || told.Decls[0].Names[0] != "f" || told.Decls[1].Names[0] != "f(A)" {
			t.Errorf("%s: %v %s", short(kind), fault, shown(told))
		}
	}
}

// TestWhatStays: P13.2; each part of a text but for the Words, with numbers that no other part has.
func TestWhatStays(t *testing.T) {
	alts := func(from int) []api.Alt {
		return []api.Alt{
			{Words: []api.Word{{Name: "X", At: from + 1}, {Name: "f", Args: []api.Word{{Name: "X", At: from + 2}}, At: from + 3}}, Prec: "X", Has: true, Action: " X f { } ", Where: from + 4, At: from + 5},
			{Where: from + 6, At: from + 7},
			{Has: true, Where: from + 8, At: from + 9},
			{Prec: "f", Action: "f(X)", At: from + 10},
			{Words: []api.Word{{Name: "A", At: from + 11}}, At: from + 12},
		}
	}
	told := func(from int, x, f string) []api.Alt {
		out := alts(from)
		out[0].Words = []api.Word{{Name: x, At: from + 1}, {Name: f, At: from + 3}}
		return out
	}
	x := api.Text{
		Decls: []api.Decl{{Kind: "type", Type: "T", Names: []string{"f"}, At: 1}, {Kind: "other", At: 2}, {Kind: "type", At: -3}, {At: 1 << 60}},
		Rules: []api.Rule{
			{Name: "f", Params: []string{"X"}, Alts: alts(100), At: 4},
			{Name: "X", Alts: alts(200), At: 5},
			{Name: "none", Params: []string{"X"}, At: 6},
			{Name: "", At: -7},
		},
	}
	answers(t, x, api.Text{
		Decls: []api.Decl{{Kind: "type", Type: "T", Names: []string{"f(X)"}, At: 1}, {Kind: "other", At: 2}, {Kind: "type", At: -3}, {At: 1 << 60}},
		Rules: []api.Rule{
			{Name: "X", Alts: told(200, "X", "f(X)"), At: 5},
			{Name: "", At: -7},
			{Name: "f(X)", Alts: told(100, "X", "f(X)"), At: 4},
		},
	}, api.Fault{})
	x.Rules[1].Alts[0].Words[1].Args[0] = api.Word{Name: "B", At: 8}
	answers(t, x, api.Text{
		Decls: []api.Decl{{Kind: "type", Type: "T", Names: []string{"f(B)"}, At: 1}, {Kind: "other", At: 2}, {Kind: "type", At: -3}, {At: 1 << 60}},
		Rules: []api.Rule{
			{Name: "X", Alts: told(200, "X", "f(B)"), At: 5},
			{Name: "", At: -7},
			{Name: "f(B)", Alts: told(100, "B", "f(B)"), At: 4},
		},
	}, api.Fault{})
}

// TestActions: no action and no %prec has its Params' words put in.
func TestActions(t *testing.T) {
	isTold(t, "%% s: f(A) { f(A) } | s %prec f { s }; f(X): X %prec X { X $1 } | {} | %prec A | A {$$ = 1};",
		"%% s: f(A) { f(A) } | s %prec f { s }; f(A): A %prec X { X $1 } | {} | %prec A | A {$$ = 1};")
}

// TestNothing: a text of nothing, and what has almost nothing.
func TestNothing(t *testing.T) {
	answers(t, api.Text{}, api.Text{}, api.Fault{})
	answers(t, api.Text{Decls: []api.Decl{{}}}, api.Text{Decls: []api.Decl{{}}}, api.Fault{})
	answers(t, ruled(api.Rule{}), ruled(api.Rule{}), api.Fault{})
	answers(t, ruled(api.Rule{Params: []string{""}}), api.Text{}, api.Fault{})
	answers(t, ruled(api.Rule{}, api.Rule{At: 3}), api.Text{}, api.Fault{Err: api.ErrTwice, At: 3})
	answers(t, ruled(rule("", api.Alt{})), ruled(rule("", api.Alt{})), api.Fault{})
	answers(t, ruled(rule("", alt(api.Word{}))), ruled(rule("", alt(api.Word{}))), api.Fault{})
	nameless := template(rule("", alt(word("X"))), "X")
	answers(t, worded([]api.Word{word("", word("", word("A")))}, nameless),
		ruled(rule("s", alt(word("((A))"))), rule("(A)", alt(word("A"))), rule("((A))", alt(word("(A)")))), api.Fault{})
	answers(t, worded([]api.Word{{Args: []api.Word{{At: 7}}}}, nameless), api.Text{}, api.Fault{Err: api.ErrParams, At: 7})
}

// TestNamesOfAnyBytes: what is one is told by texts alone, whatever stands in them.
func TestNamesOfAnyBytes(t *testing.T) {
	f := template(rule("f", alt(word("X"))), "X")
	p := template(rule("p", alt(word("X"), word("Y"))), "X", "Y")
	odd := template(rule("f(p", alt(word("X"), word("B"))), "X")
	first, second := word("f(p", word("A)")), word("f", word("p(A)"))
	for _, c := range []struct {
		x    api.Text
		want string
	}{
		{worded([]api.Word{word("f", word("p(A,B)")), word("f", word("p", word("A"), word("B")))}, f, p), "%% s: f(p(A,B)) f(p(A,B)); f(p(A,B)): p(A,B); p(A,B): A B;"},
		{worded([]api.Word{word("f", word("p", word("A"), word("B"))), word("f", word("p(A,B)"))}, f, p), "%% s: f(p(A,B)) f(p(A,B)); p(A,B): A B; f(p(A,B)): p(A,B);"},
		{worded([]api.Word{word("p", word("A,A"), word("A")), word("p", word("A"), word("A,A"))}, p), "%% s: p(A,A,A) p(A,A,A); p(A,A,A): A,A A;"},
		{worded([]api.Word{word("f(A)"), word("f", word("A"))}, f), "%% s: f(A) f(A); f(A): A;"},
		{worded([]api.Word{word("f(A)"), word("f", word("A"))}, f, rule("f(A)")), "%% s: f(A) f(A); f(A):; f(A): A;"},
		{worded([]api.Word{first, second}, odd, f), "%% s: f(p(A)) f(p(A)); f(p(A)): A) B;"},
		{worded([]api.Word{second, first}, odd, f), "%% s: f(p(A)) f(p(A)); f(p(A)): p(A);"},
		{worded([]api.Word{word("f", word("")), word("f", word(" ")), word("f", word("\x00\xff"))}, f), "%% s: f() f( ) f(\x00\xff); f(): ; f( ):  ; f(\x00\xff): \x00\xff;"},
	} {
		c.x.Decls = []api.Decl{{Kind: "type", Names: []string{"f", "f(p", "f(A)"}}}
		told, fault := byTheBook(t, c.x)
		told.Decls = nil
		if got := shown(told); fault.Err != api.OK || got != c.want {
			t.Errorf("%v %s, not %s", fault, short(got), short(c.want))
		}
	}
}
