package parse_test

import (
	"strings"
	"testing"

	"gristmill/api"
	"gristmill/parse"
)

func TestFiles(t *testing.T) {
	for s, want := range map[string]string{
		"package p":                                   "File:p",
		"package p;":                                  "File:p",
		"\n\n//\npackage p\n\n":                       "File:p",
		"package p; type t struct {}":                 "File:p(Struct:t)",
		"package p; type t struct {};":                "File:p(Struct:t)",
		"package p\ntype t struct {\n}\n":             "File:p(Struct:t)",
		"package p; type t struct { a int }":          "File:p(Struct:t(Field:a(Type:int)))",
		"package p; type t struct { a int; }":         "File:p(Struct:t(Field:a(Type:int)))",
		"package p; type t struct { a []t; b [][]p }": "File:p(Struct:t(Field:a(Slice(Type:t)) Field:b(Slice(Slice(Type:p)))))",
		"package p\ntype t struct {\n\ta int\n\tb t\n}\ntype s struct {\n}\n": "File:p(Struct:t(Field:a(Type:int) Field:b(Type:t)) Struct:s)",
		"package p; func f() {}":                                    "File:p(Func:f(Params Results Block))",
		"package p; func f(a int) {}":                               "File:p(Func:f(Params(Field:a(Type:int)) Results Block))",
		"package p; func f(a int,) {}":                              "File:p(Func:f(Params(Field:a(Type:int)) Results Block))",
		"package p; func f(\n\ta int,\n\tb []t,\n) {\n}\n":          "File:p(Func:f(Params(Field:a(Type:int) Field:b(Slice(Type:t))) Results Block))",
		"package p; func f() int {}":                                "File:p(Func:f(Params Results(Type:int) Block))",
		"package p; func f() []int {}":                              "File:p(Func:f(Params Results(Slice(Type:int)) Block))",
		"package p; func f() (int) {}":                              "File:p(Func:f(Params Results(Type:int) Block))",
		"package p; func f() (int,) {}":                             "File:p(Func:f(Params Results(Type:int) Block))",
		"package p; func f() ([]int, t,) { return }":                "File:p(Func:f(Params Results(Slice(Type:int) Type:t) Block(Return)))",
		"package p; func f() { } ; type t struct { } ; func g() {}": "File:p(Func:f(Params Results Block) Struct:t Func:g(Params Results Block))",
		"package int; type string struct { len append }":            "File:int(Struct:string(Field:len(Type:append)))",
		"package p; func f(a int) int { return a + 2 * 3 }":         "File:p(Func:f(Params(Field:a(Type:int)) Results(Type:int) Block(Return(Binary:+(Name:a Binary:*(Int:2 Int:3))))))",
	} {
		is(t, parse.File, s, want)
	}
}

func TestActions(t *testing.T) {
	for s, want := range map[string]string{
		"":                                "Block",
		" // a\n":                         "Block",
		"f()":                             "Block(Do(Call:f))",
		"f();":                            "Block(Do(Call:f))",
		"f()\n":                           "Block(Do(Call:f))",
		"f(); g()":                        "Block(Do(Call:f) Do(Call:g))",
		"f()\ng();":                       "Block(Do(Call:f) Do(Call:g))",
		"{}":                              "Block(Block)",
		"{}; {{}}":                        "Block(Block Block(Block))",
		"{ f() }":                         "Block(Block(Do(Call:f)))",
		"{\nf()\n}\n":                     "Block(Block(Do(Call:f)))",
		"{ f(); g(); }":                   "Block(Block(Do(Call:f) Do(Call:g)))",
		"$$ = $1 + $12 * $99.a":           "Block(Assign#1(Dollar Binary:+(Dollar#1 Binary:*(Dollar#12 Part:a(Dollar#99)))))",
		"$2[$$].a = $10[:$3]":             "Block(Assign#1(Part:a(Index(Dollar#2 Dollar)) UpTo(Dollar#10 Dollar#3)))",
		"$1, $$, a = $$, a, $1":           "Block(Assign#3(Dollar#1 Dollar Name:a Dollar Name:a Dollar#1))",
		"if $$ {}":                        "Block(If(Dollar Block))",
		"f($1, p{a: $2}, []int{$3}, -$4)": "Block(Do(Call:f(Dollar#1 Make:p(Key:a(Dollar#2)) List(Slice(Type:int) Dollar#3) Unary:-(Dollar#4))))",
	} {
		is(t, parse.Action, s, want)
	}
}

func TestStatements(t *testing.T) {
	for s, want := range map[string]string{
		"var a int":            "Var:a(Type:int)",
		"var a []t":            "Var:a(Slice(Type:t))",
		"var a int = 1":        "Var:a(Type:int Int:1)",
		"var a p = p{}":        "Var:a(Type:p Make:p)",
		"if a {}":              "If(Name:a Block)",
		"if a {} else {}":      "If(Name:a Block Block)",
		"if a {} else if b {}": "If(Name:a Block If(Name:b Block))",
		"if a { f() } else if b { g() } else { h() }": "If(Name:a Block(Do(Call:f)) If(Name:b Block(Do(Call:g)) Block(Do(Call:h))))",
		"if a { if b {} else {} }":                    "If(Name:a Block(If(Name:b Block Block)))",
		"for {}":                                      "For(Block)",
		"for a {}":                                    "For(Name:a Block)",
		"l: for {}":                                   "For:l(Block)",
		"l: for a < b { f() }":                        "For:l(Binary:<(Name:a Name:b) Block(Do(Call:f)))",
		"l:\nfor {}":                                  "For:l(Block)",
		"l: for { m: for { break l; continue m } }": "For:l(Block(For:m(Block(Break:l Continue:m))))",
		"switch a {}":                                         "Switch(Name:a)",
		"switch a { default: }":                               "Switch(Name:a Case(Block))",
		"switch a { default: default: }":                      "Switch(Name:a Case(Block) Case(Block))",
		"switch a { case 1: }":                                "Switch(Name:a Case(Int:1 Block))",
		"switch a { case 1, b, \"c\": }":                      "Switch(Name:a Case(Int:1 Name:b String:c Block))",
		"switch a { case 1: f() }":                            "Switch(Name:a Case(Int:1 Block(Do(Call:f))))",
		"switch a { case 1: f(); }":                           "Switch(Name:a Case(Int:1 Block(Do(Call:f))))",
		"switch a { case 1: f(); g() }":                       "Switch(Name:a Case(Int:1 Block(Do(Call:f) Do(Call:g))))",
		"switch a { case 1: f(); case 2: g() }":               "Switch(Name:a Case(Int:1 Block(Do(Call:f))) Case(Int:2 Block(Do(Call:g))))",
		"switch a {\ncase 1:\nf()\ndefault:\ng()\ncase 2:\n}": "Switch(Name:a Case(Int:1 Block(Do(Call:f))) Case(Block(Do(Call:g))) Case(Int:2 Block))",
		"switch a { case 1: return; default: return }":        "Switch(Name:a Case(Int:1 Block(Return)) Case(Block(Return)))",
		"switch a { case p{}: {}; case q{}: { } }":            "Switch(Name:a Case(Make:p Block(Block)) Case(Make:q Block(Block)))",
		"return":                        "Return",
		"return a":                      "Return(Name:a)",
		"return a, f(), p{}":            "Return(Name:a Call:f Make:p)",
		"break":                         "Break",
		"break l":                       "Break:l",
		"continue":                      "Continue",
		"continue l":                    "Continue:l",
		"f()":                           "Do(Call:f)",
		"f(a)":                          "Do(Call:f(Name:a))",
		"f(a, g(b),)":                   "Do(Call:f(Name:a Call:g(Name:b)))",
		"a := 1":                        "Define#1(Name:a Int:1)",
		"a := f()":                      "Define#1(Name:a Call:f)",
		"a := f() + 1":                  "Define#1(Name:a Binary:+(Call:f Int:1))",
		"a := (f())":                    "Define#1(Name:a Call:f)",
		"a, b := f()":                   "Define#2(Name:a Name:b Call:f)",
		"a, b, c := f(1,)":              "Define#3(Name:a Name:b Name:c Call:f(Int:1))",
		"a, a := a()":                   "Define#2(Name:a Name:a Call:a)",
		"a = 1":                         "Assign#1(Name:a Int:1)",
		"a = f()":                       "Assign#1(Name:a Call:f)",
		"a = (f())":                     "Assign#1(Name:a Call:f)",
		"a, b = f()":                    "Assign#2(Name:a Name:b Call:f)",
		"a, b, c = f()":                 "Assign#3(Name:a Name:b Name:c Call:f)",
		"a, b = b, a":                   "Assign#2(Name:a Name:b Name:b Name:a)",
		"a, b = f(), g()":               "Assign#2(Name:a Name:b Call:f Call:g)",
		"a, b = (f()), 1":               "Assign#2(Name:a Name:b Call:f Int:1)",
		"a, b = f() + 1, 1":             "Assign#2(Name:a Name:b Binary:+(Call:f Int:1) Int:1)",
		"a, b, c, d, e = 1, 2, 3, 4, 5": "Assign#5(Name:a Name:b Name:c Name:d Name:e Int:1 Int:2 Int:3 Int:4 Int:5)",
		"a.b = 1":                       "Assign#1(Part:b(Name:a) Int:1)",
		"a[0] = 1":                      "Assign#1(Index(Name:a Int:0) Int:1)",
		"a[i].b[j + 1].c = 1":           "Assign#1(Part:c(Index(Part:b(Index(Name:a Name:i)) Binary:+(Name:j Int:1))) Int:1)",
		"a.b.c, d[0][1] = f()":          "Assign#2(Part:c(Part:b(Name:a)) Index(Index(Name:d Int:0) Int:1) Call:f)",
		"a[p{}] = 1":                    "Assign#1(Index(Name:a Make:p) Int:1)",
		"a[b[:1]] = 1":                  "Assign#1(Index(Name:a UpTo(Name:b Int:1)) Int:1)",
	} {
		isStatement(t, s, want)
	}
}

func TestExpressions(t *testing.T) {
	for s, want := range map[string]string{
		"1":                 "Int:1",
		"0":                 "Int:0",
		"1.50":              "Float:1.50",
		"\"a\\n\"":          "String:a\n",
		"\"\"":              "String",
		"true":              "Bool#1",
		"false":             "Bool",
		"a":                 "Name:a",
		"nil":               "Name:nil",
		"f()":               "Call:f",
		"f(a, 1)":           "Call:f(Name:a Int:1)",
		"f(a, 1,)":          "Call:f(Name:a Int:1)",
		"f(\n\ta,\n\t1,\n)": "Call:f(Name:a Int:1)",
		"(a)":               "Name:a",
		"((a))":             "Name:a",
		"(1 + 2) * 3":       "Binary:*(Binary:+(Int:1 Int:2) Int:3)",
		"1 + (2 + 3)":       "Binary:+(Int:1 Binary:+(Int:2 Int:3))",
		"-a":                "Unary:-(Name:a)",
		"!a":                "Unary:!(Name:a)",
		"- -a":              "Unary:-(Unary:-(Name:a))",
		"!!a":               "Unary:!(Unary:!(Name:a))",
		"-!- 1":             "Unary:-(Unary:!(Unary:-(Int:1)))",
		"-(1)":              "Unary:-(Int:1)",
		"-a.b[c]":           "Unary:-(Index(Part:b(Name:a) Name:c))",
		"(-a).b":            "Part:b(Unary:-(Name:a))",
		"a[b]":              "Index(Name:a Name:b)",
		"a[:b]":             "UpTo(Name:a Name:b)",
		"a.b":               "Part:b(Name:a)",
		"a.b.c":             "Part:c(Part:b(Name:a))",
		"a[b][:c].d":        "Part:d(UpTo(Index(Name:a Name:b) Name:c))",
		"f().a":             "Part:a(Call:f)",
		"f()[0]":            "Index(Call:f Int:0)",
		"\"a\"[0]":          "Index(String:a Int:0)",
		"true.a":            "Part:a(Bool#1)",
		"1 .a":              "Part:a(Int:1)",
		"(a + b)[c]":        "Index(Binary:+(Name:a Name:b) Name:c)",
		"a[b + 1 < c]":      "Index(Name:a Binary:<(Binary:+(Name:b Int:1) Name:c))",
		"a[b[c]]":           "Index(Name:a Index(Name:b Name:c))",
		"[]int{}":           "List(Slice(Type:int))",
		"[]int{1}":          "List(Slice(Type:int) Int:1)",
		"[]int{1, 2,}":      "List(Slice(Type:int) Int:1 Int:2)",
		"[][]p{[]p{}}":      "List(Slice(Slice(Type:p)) List(Slice(Type:p)))",
		"[]int{1}[0]":       "Index(List(Slice(Type:int) Int:1) Int:0)",
		"p{}":               "Make:p",
		"p{a: 1}":           "Make:p(Key:a(Int:1))",
		"p{a: 1, b: q{},}":  "Make:p(Key:a(Int:1) Key:b(Make:q))",
		"p{\n\ta: 1,\n}":    "Make:p(Key:a(Int:1))",
		"p{a: p}.a":         "Part:a(Make:p(Key:a(Name:p)))",
		"p{}[p{}]":          "Index(Make:p Make:p)",
		"p{} == p{}":        "Binary:==(Make:p Make:p)",
		"a +\nb":            "Binary:+(Name:a Name:b)",
	} {
		isExpression(t, s, want)
	}
}

// strength tells how strongly an operator binds, by the document's lines.
func strength(sign string) int {
	for i, line := range []string{"||", "&&", "== != < <= > >=", "+ -", "* / %"} {
		for _, s := range strings.Fields(line) {
			if s == sign {
				return i
			}
		}
	}
	return -1
}

func TestEachOperatorBesideEachOther(t *testing.T) {
	all := strings.Fields("|| && == != < <= > >= + - * / %")
	for _, o := range all {
		isExpression(t, "a "+o+" b", "Binary:"+o+"(Name:a Name:b)")
		for _, sign := range []string{"-", "!"} {
			isExpression(t, sign+"a "+o+" "+sign+"b", "Binary:"+o+"(Unary:"+sign+"(Name:a) Unary:"+sign+"(Name:b))")
		}
		isExpression(t, "a.b "+o+" c[d]", "Binary:"+o+"(Part:b(Name:a) Index(Name:c Name:d))")
		for _, p := range all {
			left := "Binary:" + p + "(Binary:" + o + "(Name:a Name:b) Name:c)"
			right := "Binary:" + o + "(Name:a Binary:" + p + "(Name:b Name:c))"
			if strength(o) >= strength(p) {
				isExpression(t, "a "+o+" b "+p+" c", left)
			} else {
				isExpression(t, "a "+o+" b "+p+" c", right)
			}
			isExpression(t, "(a "+o+" b) "+p+" c", left)
			isExpression(t, "a "+o+" (b "+p+" c)", right)
			for _, q := range all {
				isThree(t, o, p, q)
			}
		}
	}
}

// isThree puts parentheses around the operator that binds first, of like ones the left one, till all have some.
func isThree(t *testing.T, signs ...string) {
	t.Helper()
	source := "a " + signs[0] + " b " + signs[1] + " c " + signs[2] + " d"
	parts := []string{"Name:a", "Name:b", "Name:c", "Name:d"}
	for len(signs) > 0 {
		first := 0
		for i := range signs {
			if strength(signs[i]) > strength(signs[first]) {
				first = i
			}
		}
		whole := "Binary:" + signs[first] + "(" + parts[first] + " " + parts[first+1] + ")"
		parts = append(append(append([]string{}, parts[:first]...), whole), parts[first+2:]...)
		signs = append(append([]string{}, signs[:first]...), signs[first+1:]...)
	}
	is(t, parse.Action, "x = "+source, "Block(Assign#1(Name:x "+parts[0]+"))")
}

func TestHeads(t *testing.T) {
	for x, want := range map[string]string{
		"p":                         "Name:p",
		"a == p":                    "Binary:==(Name:a Name:p)",
		"!p":                        "Unary:!(Name:p)",
		"a.p":                       "Part:p(Name:a)",
		"(p{})":                     "Make:p",
		"(p{a: 1}) == q":            "Binary:==(Make:p(Key:a(Int:1)) Name:q)",
		"((p{}))":                   "Make:p",
		"(a == p{})":                "Binary:==(Name:a Make:p)",
		"f(p{})":                    "Call:f(Make:p)",
		"f(a, p{}, q)":              "Call:f(Name:a Make:p Name:q)",
		"f(g(p{}), p{})":            "Call:f(Call:g(Make:p) Make:p)",
		"a[p{}]":                    "Index(Name:a Make:p)",
		"a[:p{}]":                   "UpTo(Name:a Make:p)",
		"a[p{}.b].c":                "Part:c(Index(Name:a Part:b(Make:p)))",
		"[]p{}":                     "List(Slice(Type:p))",
		"[]p{q}":                    "List(Slice(Type:p) Name:q)",
		"[]p{q{}}":                  "List(Slice(Type:p) Make:q)",
		"[]p{q{a: r{}}, s{}}[0]":    "Index(List(Slice(Type:p) Make:q(Key:a(Make:r)) Make:s) Int:0)",
		"[][]p{[]p{q{}}}":           "List(Slice(Slice(Type:p)) List(Slice(Type:p) Make:q))",
		"(p{a: q{}})":               "Make:p(Key:a(Make:q))",
		"f(p{}) == g(q)":            "Binary:==(Call:f(Make:p) Call:g(Name:q))",
		"a && (p{}).a && b[p{}]":    "Binary:&&(Binary:&&(Name:a Part:a(Make:p)) Index(Name:b Make:p))",
		"(a)[p{}] || f([]p{}, p{})": "Binary:||(Index(Name:a Make:p) Call:f(List(Slice(Type:p)) Make:p))",
	} {
		isStatement(t, "if "+x+" {}", "If("+want+" Block)")
		isStatement(t, "if a {} else if "+x+" { y = p{} }", "If(Name:a Block If("+want+" Block(Assign#1(Name:y Make:p))))")
		isStatement(t, "for "+x+" { f(p{}) }", "For("+want+" Block(Do(Call:f(Make:p))))")
		isStatement(t, "l: for "+x+" { if "+x+" {} }", "For:l("+want+" Block(If("+want+" Block)))")
		isStatement(t, "switch "+x+" { case p{}: }", "Switch("+want+" Case(Make:p Block))")
		isExpression(t, x, want)
	}
	// Behind a head's block a name with a brace is a node again.
	is(t, parse.Action, "if a {}; x = p{}", "Block(If(Name:a Block) Assign#1(Name:x Make:p))")
	is(t, parse.Action, "if p {}", "Block(If(Name:p Block))")
	is(t, parse.Action, "for p { p() }", "Block(For(Name:p Block(Do(Call:p))))")
}

func TestBlanksAndComments(t *testing.T) {
	spaced := "switch a [ 0 ] . b { case 1 , 2 : f ( ) ; default : x , y = - 1 , p { a : \"  \" } ; return } ; l : for ! a { continue l }"
	tight := strings.NewReplacer(" ;", ";", "; ", ";", " (", "(", "( ", "(", " )", ")", " [ ", "[", " ] ", "]", ". ", ".", " , ", ",", " : ", ":", "- ", "-", "{ ", "{").Replace(spaced)
	commented := strings.ReplaceAll(strings.ReplaceAll(spaced, "  ", "\x00"), " ; ", " // ; }\n") + " // {"
	commented = strings.ReplaceAll(strings.ReplaceAll(commented, "{ c", "{// }\n\n c"), "\x00", "  ")
	want, fault := parse.Action(spaced)
	if fault.Err != api.OK {
		t.Fatal(fault)
	}
	for _, s := range []string{tight, commented, "\r\t " + spaced + "\t", strings.ReplaceAll(spaced, " : ", " \t\r: ")} {
		if s == spaced {
			t.Error("nothing was changed")
		}
		is(t, parse.Action, s, spell(want, false))
	}
}
