package symbols_test

import (
	"reflect"
	"testing"

	"gristmill/api"
	"gristmill/symbols"
)

// TestExample: the chapter's own, part by part.
func TestExample(t *testing.T) {
	x, _ := layOut("%token <int> NUM ; %left PLUS ; %% e : e PLUS e | NUM ;")
	want := api.Grammar{
		Terms:   3,
		Symbols: []api.Symbol{{Name: "$end"}, {Name: "NUM", Type: "int"}, {Name: "PLUS", Level: 1, Assoc: api.AssocLeft}, {Name: "$accept"}, {Name: "e"}},
		Prods:   []api.Prod{{Left: 3, Right: []int{4}, Prec: -1}, {Left: 4, Right: []int{4, 2, 4}, Prec: 2}, {Left: 4, Right: []int{1}, Prec: -1}},
	}
	got, fault := symbols.Make(x)
	if fault != (api.Fault{}) || !reflect.DeepEqual(got, want) || !symbols.Right(got) {
		t.Errorf("%v %s, not %s", fault, shown(got), shown(want))
	}
	isTold(t, "%token <int> NUM ; %left PLUS ; %% e : e PLUS e | NUM ;", "$end NUM<int> PLUS.1l, $accept e; 3: 4; 4: 4 2 4 =2; 4: 1")
}

// TestSymbolsTold: P14.2; terminals and nonterminals, their order, Types, Levels and Assocs.
func TestSymbolsTold(t *testing.T) {
	for _, c := range [][2]string{
		{"%% s ;", "$end, $accept s; 1: 2"},
		{"%% s : ;", "$end, $accept s; 1: 2; 2:"},

		// Terminals in the order in which they came, of whatever Decls.
		{"%token B A ; %token C ; %% s ;", "$end B A C, $accept s; 4: 5"},
		{"%left B ; %token A ; %right D C ; %nonassoc E ; %token Z F ; %% s ;", "$end B.1l A D.2r C.2r E.3n Z F, $accept s; 8: 9"},
		{"%token B ; %left A B C ; %token D ; %% s ;", "$end B.1l A.1l C.1l D, $accept s; 5: 6"},
		{"%token C B A ; %nonassoc A ; %left B ; %% s ;", "$end C B.2l A.1n, $accept s; 4: 5"},

		// Types of tokens.
		{"%token <int> A ; %token <bool> B ; %token <string> C ; %token <float64> D ; %token E ; %% s ;", "$end A<int> B<bool> C<string> D<float64> E, $accept s; 6: 7"},
		{"%token <int> A B ; %left B A C ; %% s ;", "$end A<int>.1l B<int>.1l C.1l, $accept s; 4: 5"},
		{"%token <string> A ; %token B ; %right A ; %nonassoc B ; %% s ;", "$end A<string>.1r B.2n, $accept s; 3: 4"},

		// Levels rise over left, right and nonassoc, whatever stands between, and whatever they have.
		{"%left A ; %left B ; %right C ; %right D ; %nonassoc E ; %nonassoc F ; %left G ; %% s ;", "$end A.1l B.2l C.3r D.4r E.5n F.6n G.7l, $accept s; 8: 9"},
		{"%token X ; %left A ; %type <int> s ; %start s ; %right B ; %token Y ; %nonassoc X Y ; %% s ;", "$end X.3n A.1l B.2r Y.3n, $accept s<int>; 5: 6"},
		{"%left ; %right ; %nonassoc ; %left A ; %% s ;", "$end A.4l, $accept s; 2: 3"},
		{"%nonassoc A ; %left ; %right B ; %% s ;", "$end A.1n B.3r, $accept s; 3: 4"},

		// Nonterminals in the order of the rules; their Types.
		{"%% c : a ; b : ; a : b ;", "$end, $accept c b a; 1: 2; 2: 4; 3:; 4: 3"},
		{"%type <bool> b ; %type <float64> c ; %% c ; b ; a ;", "$end, $accept c<float64> b<bool> a; 1: 2"},
		{"%type <int> a c ; %type <string> b ; %token <int> A ; %% c ; b ; a ; d ;", "$end A<int>, $accept c<int> b<string> a<int> d; 2: 3"},
		{"%type <float64> ; %type <int> s ; %% s ;", "$end, $accept s<int>; 1: 2"},
	} {
		isTold(t, c[0], c[1])
	}
}

// TestProdsTold: P14.2; the first production, and one of each Alt.
func TestProdsTold(t *testing.T) {
	for _, c := range [][2]string{
		// The start: the first rule, or that of the Decl.
		{"%% a : b ; b : a ;", "$end, $accept a b; 1: 2; 2: 3; 3: 2"},
		{"%start a ; %% a : b ; b : a ;", "$end, $accept a b; 1: 2; 2: 3; 3: 2"},
		{"%start b ; %% a : b ; b : a ;", "$end, $accept a b; 1: 3; 2: 3; 3: 2"},
		{"%token A ; %start c ; %left B ; %% a : A ; b : B ; c : ; d ;", "$end A B.1l, $accept a b c d; 3: 6; 4: 1; 5: 2 =2; 6:"},
		{"%start <none> d ; %% a ; b ; c ; d ;", "$end, $accept a b c d; 1: 5"},

		// One of each Alt, rule by rule; a rule may have none.
		{"%token A B ; %% s : A | B A | ; t ; u : | s t u A ; v : v ;", "$end A B, $accept s t u v; 3: 4; 4: 1; 4: 2 1; 4:; 6:; 6: 4 5 6 1; 7: 7"},
		{"%% s ; t : | | ; u : ;", "$end, $accept s t u; 1: 2; 3:; 3:; 3:; 4:"},
		{"%token A ; %% s : A A A A A A A A A A | s A s A s A s A s A ;", "$end A, $accept s; 2: 3; 3: 1 1 1 1 1 1 1 1 1 1; 3: 3 1 3 1 3 1 3 1 3 1"},

		// Prec: that of the Alt, also if it has no level; else the last terminal that has one; else none.
		{"%token A B ; %left P ; %right Q ; %% s : A s B | P | A P B | P Q | Q P | P s Q s A | s ;", "$end A B P.1l Q.2r, $accept s; 5: 6; 6: 1 6 2; 6: 3 =3; 6: 1 3 2 =3; 6: 3 4 =4; 6: 4 3 =3; 6: 3 6 4 6 1 =4; 6: 6"},
		{"%token A ; %left P ; %right Q ; %% s : A %prec P | P %prec A | P Q %prec P | Q P %prec Q | %prec Q | P %prec P | s %prec A ;", "$end A P.1l Q.2r, $accept s; 4: 5; 5: 1 =2; 5: 2 =1; 5: 2 3 =2; 5: 3 2 =3; 5: =3; 5: 2 =2; 5: 5 =1"},
		{"%nonassoc P P2 ; %token A ; %% s : P P2 A | P2 P | P P ;", "$end P.1n P2.1n A, $accept s; 4: 5; 5: 1 2 3 =2; 5: 2 1 =1; 5: 1 1 =1"},
		{"%left P ; %token A ; %% s : P t ; t : A ;", "$end P.1l A, $accept s t; 3: 4; 4: 1 5 =1; 5: 2"},

		// Has, Action and Where; of no Has none.
		{"%token A ; %% s : A {x}7 | {}0 | A %prec A {$$=$1}12345 | {y}-3 ;", "$end A, $accept s; 2: 3; 3: 1 {x}7; 3: {}0; 3: 1 =1 {$$=$1}12345; 3: {y}-3"},
		{"%token A ; %% s : A !{x}7 | !{}9 | !{y}-5 | !{z}0 ;", "$end A, $accept s; 2: 3; 3: 1; 3:; 3:; 3:"},
		{"%% s : {}9 | {x}0 | {{}{\"}3 ;", "$end, $accept s; 1: 2; 2: {}9; 2: {x}0; 2: {{}{\"}3"},
	} {
		isTold(t, c[0], c[1])
	}
}

// TestPlacesPlayNoPart: what is told has no places but Where.
func TestPlacesPlayNoPart(t *testing.T) {
	for _, s := range memorable() {
		x, _ := layOut(s)
		want, _ := bookMake(x)
		for _, at := range []int{0, -1, 1 << 62, -1 << 63} {
			answers(t, copier{0, same, func(int) int { return at }}.text(x), want, api.Fault{})
		}
	}
}
