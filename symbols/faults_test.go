package symbols_test

import (
	"strings"
	"testing"

	"gristmill/api"
)

// Faults by the time at which a text is gone through; all else is right in it. What is marked is where the fault is told.

func firstFaults() map[api.Errno][]string {
	return map[api.Errno][]string{
		api.ErrParams: {
			"%% @s(X) : ;",
			"%% @s(X) ;",
			"%% @s(X,Y,Z) : s ;",
			"%token A ; %% s : A ; @t(X) : A | A A ; u : ;",
			"%% s : t ; t : ; @u(s) : ;",
			"%% s : @s(s) ;",
			"%token A ; %% s : @A(A) ;",
			"%token A ; %% s : A @A(A) A ;",
			"%token A ; %% s : A A @s(A,A) ;",
			"%token A ; %% s : A | | s @s(A) | A ;",
			"%token A ; %% s : A ; t : A | s @t(A) ; u : ;",
			// One by one: rules, their Words, Alts.
			"%% @s(X) : s(s) ; t(X) : ;",
			"%% s : @s(s) ; t(X) : ;",
			"%% s : s @s(s) s(s) | s(s) ; t : t(t) ;",
			"%% s : s | s @s(s) | s(s) ; t(X) : ;",
			"%% s : s ; @t(X) : t(t) ; u(X) : u(u) ;",
			"%% s : s ; t : t @t(t) ; u(X) : u(u) ;",
		},
	}
}

func secondFaults() map[api.Errno][]string {
	faults := map[api.Errno][]string{
		api.ErrTwice: {
			// A terminal already.
			"@%token A A ; %% s : ;",
			"@%token A B C A ; %% s : ;",
			"%token A B ; @%token C A ; %% s : ;",
			"%token <int> A ; @%token A ; %% s : ;",
			"%token A ; @%token <int> A ; %% s : ;",
			"%left A ; @%token A ; %% s : ;",
			"%right A ; @%token <int> B A ; %% s : ;",
			"%nonassoc B A ; %left C ; @%token A ; %% s : ;",
			"%token A ; %left A ; @%token A ; %% s : ;",
			// A level already.
			"@%left A A ; %% s : ;",
			"@%right A B A ; %% s : ;",
			"@%nonassoc A A ; %% s : ;",
			"%left A ; @%left A ; %% s : ;",
			"%left A ; @%right B A ; %% s : ;",
			"%right A ; @%nonassoc A ; %% s : ;",
			"%nonassoc A ; %token B ; @%left A ; %% s : ;",
			"%token A ; %left A ; @%left A ; %% s : ;",
		},
		api.ErrStart: {
			"@%start ; %% s : ;",
			"@%start s s ; %% s : ;",
			"@%start s t ; %% s : ; t : ;",
			"@%start s t u ; %% s : ; t : ; u : ;",
			"%start s ; @%start s ; %% s : ;",
			"%start s ; @%start t ; %% s : ; t : ;",
			"%start s ; %token A ; @%start ; %% s : ;",
			"%start s ; @%start s ; %start s ; %% s : ;",
			// Of no rule, too.
			"%start A ; @%start B ; %% s : ;",
			"@%start A B ; %% s : ;",
		},
	}
	for _, kind := range []string{"", "Token", "token2", "tokens", "TOKEN", "tok", "%token", "$end", "prec", "leftright", "none", "nonassoc$", "Left", "starts", "types"} {
		faults[api.ErrArg] = append(faults[api.ErrArg],
			"%token A ; @%"+kind+" ; %% s : A ;",
			"%token A ; @%"+kind+" <int> A '' ; %% s : A ;")
	}
	for _, of := range []string{"Int", "INT", "int64", "float", "float32", "double", "byte", "boolean", "bool2", "strings", "none", "s", "A", "[]int", "$end"} {
		faults[api.ErrType] = append(faults[api.ErrType],
			"@%token <"+of+"> B ; %% s : B ;",
			"@%token <"+of+"> ; %% s : ;",
			"%token <int> A ; @%token <"+of+"> ; %% s : ;",
			"@%type <"+of+"> s ; %% s : ;",
			"@%type <"+of+"> ; %% s : ;",
			"%type <int> s ; @%type <"+of+"> t ; %% s : ; t : ;",
			"@%left <"+of+"> B ; %% s : B ;",
			"@%right <"+of+"> ; %% s : ;",
			"@%nonassoc <"+of+"> B C ; %% s : ;")
	}
	for _, of := range []string{"int", "bool", "string", "float64"} {
		for _, kind := range []string{"left", "right", "nonassoc"} {
			faults[api.ErrType] = append(faults[api.ErrType],
				"@%"+kind+" <"+of+"> A ; %% s : A ;",
				"@%"+kind+" <"+of+"> ; %% s : ;",
				"%token A ; %left A ; @%"+kind+" <"+of+"> B ; %% s : A ;")
		}
	}
	faults[api.ErrType] = append(faults[api.ErrType],
		"@%type ; %% s : ;",
		"@%type s ; %% s : ;",
		"%type <int> s ; @%type t ; %% s : ; t : ;")
	for _, name := range []string{"''", "$end", "$accept"} {
		for _, kind := range []string{"%token", "%token <int>", "%left", "%right", "%nonassoc"} {
			faults[api.ErrSymbol] = append(faults[api.ErrSymbol],
				"@"+kind+" "+name+" ; %% s : ;",
				"@"+kind+" A "+name+" B ; %% s : A B ;",
				"@"+kind+" A B "+name+" ; %% s : A B ;",
				"%token A ; @"+kind+" "+name+" C ; %% s : ;",
				"%left A ; @"+kind+" B "+name+" ; %% s : ;")
		}
	}
	return faults
}

func thirdFaults() map[api.Errno][]string {
	faults := map[api.Errno][]string{
		api.ErrTwice: {
			"%% s : ; @s : ;",
			"%% s ; @s ;",
			"%% s : ; t : ; @s : t ;",
			"%% s : ; t : ; @t : s ; s : ;",
			"%token A ; %% @A : ;",
			"%token <int> A ; %% s : ; @A : s ;",
			"%token A B ; %% s : A ; t : ; @B : A ;",
			"%left A ; %% s : ; @A : ;",
			"%right B A ; %% s : ; @A : B ;",
			"%nonassoc A ; %% @A : A ;",
			"%% s : ; @s : ; $end : ;",
		},
		api.ErrStart: {
			"%%",
			"%token A ; %left A ; %%",
			"%token <int> A B ; %left B C ; %right D ; %nonassoc E ; %type <int> ; %%",
		},
	}
	for _, name := range []string{"''", "$end", "$accept"} {
		faults[api.ErrSymbol] = append(faults[api.ErrSymbol],
			"%% @"+name+" : ;",
			"%% @"+name+" ;",
			"%token A ; %% s : A ; @"+name+" : s ;",
			"%% s : ; @"+name+" : ; t : ;",
			"%% s : ; @"+name+" : ; s : ;")
	}
	return faults
}

func fourthFaults() map[api.Errno][]string {
	faults := map[api.Errno][]string{
		api.ErrTwice: {
			"@%type <int> s s ; %% s : ;",
			"@%type <int> s t s ; %% s : ; t : ;",
			"%type <int> s ; @%type <int> s ; %% s : ;",
			"%type <int> s ; @%type <bool> t s ; %% s : ; t : ;",
			"%type <int> s t ; %token A ; %start s ; @%type <string> t ; %type <string> s ; %% s : ; t : ;",
		},
		api.ErrSymbol: {
			"@%type <int> t ; %% s : ;",
			"@%type <bool> s t ; %% s : ;",
			"@%type <string> t s ; %% s : ;",
			"%token A ; @%type <int> A ; %% s : A ;",
			"%token <int> A ; @%type <int> s A ; %% s : A ;",
			"%left A ; @%type <float64> A ; %% s : A ;",
			"@%type <int> A ; %token A ; %% s : A ;",
			"%type <int> s ; @%type <int> '' ; %% s : ;",
			"@%type <int> s $end ; %% s : ;",
			"@%type <int> s $accept ; %% s : ;",
			"@%type <int> $end ; %% s : ;",
			"@%type <int> $accept ; %% s : ;",
		},
		api.ErrStart: {
			"@%start t ; %% s : ;",
			"@%start '' ; %% s : ;",
			"@%start $end ; %% s : ;",
			"@%start $accept ; %% s : ;",
			"%token A ; @%start A ; %% s : A ;",
			"@%start A ; %right A ; %% s : A ;",
			"%type <int> s ; %token A ; @%start A ; %type <int> t ; %% s : A ; t : ;",
		},
	}
	// In the order of the Decls.
	faults[api.ErrSymbol] = append(faults[api.ErrSymbol],
		"@%type <int> s t s ; %% s : ;",
		"%type <int> s ; @%type <int> t s ; %% s : ;",
		"@%type <int> t ; %start t ; %% s : ;",
		"%start s ; @%type <int> t ; %type <int> s s ; %% s : ;")
	faults[api.ErrTwice] = append(faults[api.ErrTwice],
		"@%type <int> s s t ; %% s : ;",
		"%type <int> s ; @%type <int> s t ; %% s : ;",
		"@%type <int> s s ; %start t ; %% s : ;")
	faults[api.ErrStart] = append(faults[api.ErrStart],
		"@%start t ; %type <int> t ; %% s : ;",
		"@%start t ; %type <int> s s ; %% s : ;")
	return faults
}

func fifthFaults() map[api.Errno][]string {
	ten := strings.Repeat(" s", 10)
	return map[api.Errno][]string{
		api.ErrMany: {
			"%% s : @ s" + ten + " ;",
			"%token A ; %% s : | @ A" + ten + " | s ;",
			"%token A ; %% s : s ; t : " + ten + " | | @" + ten + ten + " ; u : ;",
			"%% s : @" + ten + " t t | t ;",
			"%% s : @ t" + ten + " %prec P ;",
			"%% s : @" + ten + " '' ;",
		},
		api.ErrSymbol: {
			// Words that are no symbols.
			"%% s : @t ;",
			"%% s : @'' ;",
			"%% s : @$end ;",
			"%% s : @$accept ;",
			"%token A ; %% s : A @$end ;",
			"%token A ; %% s : A @$accept s ;",
			"%token A ; %% s : A s @a ;",
			"%token A ; %% s : A | | s @S A | B ;",
			"%token A ; %% s : A ; t : A | s @B ; u : C ;",
			"%% s : s s s s s s s s s @t ;",
			"%% s : s @t" + ten[:16] + " ;",
			"%token int ; %% s : int @bool ;",
			"%left A ; %% s : A @left ;",
			// Prec that is none.
			"%% s : @ %prec P ;",
			"%% s : s | @ s %prec s ;",
			"%% s : @ %prec $end ;",
			"%% s : @ s %prec $accept ;",
			"%token A ; %left B ; %% s : A %prec B | @ A A %prec C | A %prec D ;",
			"%token A ; %% s : A ; t : A %prec A | @ A %prec t ;",
			"%% s : @" + ten + " %prec P ;",
			// Words come first, one by one; then Prec.
			"%% s : @t %prec P ;",
			"%% s : s @t u %prec s ;",
			"%% s : @ %prec P | t ;",
			"%% s : @ %prec P | s" + ten + " ; t : u ;",
			"%% s : @t | s" + ten + " ;",
			"%% s : s ; t : @ s %prec P ; u : v ;",
		},
	}
}

// TestFaults: P14.1, each time through a text.
func TestFaults(t *testing.T) {
	for _, faults := range allFaults() {
		for err, sources := range faults {
			for _, s := range sources {
				isFault(t, s, err)
			}
		}
	}
}

func allFaults() []map[api.Errno][]string {
	return []map[api.Errno][]string{firstFaults(), secondFaults(), thirdFaults(), fourthFaults(), fifthFaults()}
}

// TestNoFaults: what stands near to faults.
func TestNoFaults(t *testing.T) {
	for _, s := range []string{
		"%% s ;",
		"%% s : ;",
		"%token ; %left ; %right ; %nonassoc ; %type <int> ; %token <int> ; %% s : ;",
		"%token A ; %left A ; %% s : A ;",
		"%token <int> A B ; %right B A ; %% s : A | B ;",
		"%token A ; %nonassoc B A C ; %% s : A B C ;",
		"%type <bool> s t ; %% s : t ; t : s ;",
		"%start <Int> s ; %% s : ;",
		"%start <int> t ; %% s : ; t : ;",
		"%token token ; %left left ; %% s : token %prec left ;",
		"%token int bool ; %% string : int | bool ; float64 : string ;",
		"%token End Accept $ end accept $END $Accept $end2 $$ ; %% $en : $ $END ; $accepts : $en ;",
		"%% s : s s s s s s s s s s ;",
		"%token A ; %% s : A %prec A | %prec A ;",
	} {
		x, _ := layOut(s)
		if _, fault := byTheBook(t, x); fault != (api.Fault{}) {
			t.Errorf("%s: %v", s, fault)
		}
	}
}

// TestNamesOfTemplates: what expand tells has names with brackets in them.
func TestNamesOfTemplates(t *testing.T) {
	x, _ := layOut("%token A ; %type <int> l ; %start l ; %% s : l A | l ; l : l A | ;")
	for i := range x.Decls {
		for n, name := range x.Decls[i].Names {
			if name == "l" {
				x.Decls[i].Names[n] = "list(opt(A),A)"
			}
		}
	}
	for i := range x.Rules {
		if x.Rules[i].Name == "l" {
			x.Rules[i].Name = "list(opt(A),A)"
		}
		for _, a := range x.Rules[i].Alts {
			for n := range a.Words {
				if a.Words[n].Name == "l" {
					a.Words[n].Name = "list(opt(A),A)"
				}
			}
		}
	}
	told, fault := byTheBook(t, x)
	if want := "$end A, $accept s list(opt(A),A)<int>; 2: 4; 3: 4 1; 3: 4; 4: 4 1; 4:"; fault.Err != api.OK || shown(told) != want {
		t.Errorf("%v %s, not %s", fault, shown(told), want)
	}
}
