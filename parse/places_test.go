package parse_test

import (
	"testing"

	"gristmill/parse"
)

func TestPlacesOfFiles(t *testing.T) {
	for s, want := range map[string]string{
		"package p":      "File:p@0",
		"\n\n package p": "File:p@0",
		"package p; type t struct { a int; b []t }": "File:p@0(Struct:t@11(Field:a@27(Type:int@29) Field:b@34(Slice@36(Type:t@38))))",
		"package p; func f() {}":                    "File:p@0(Func:f@11(Params@0 Results@0 Block@20))",
		"package p; func f( a int, b []t) { f() }":  "File:p@0(Func:f@11(Params@19(Field:a@19(Type:int@21) Field:b@26(Slice@28(Type:t@30))) Results@0 Block@33(Do@35(Call:f@35))))",
		"package p; func f() int {}":                "File:p@0(Func:f@11(Params@0 Results@20(Type:int@20) Block@24))",
		"package p; func f() ( []int, p) {}":        "File:p@0(Func:f@11(Params@0 Results@22(Slice@22(Type:int@24) Type:p@29) Block@32))",
		"\tpackage p\n\ntype t struct {}":           "File:p@0(Struct:t@12)",
	} {
		stands(t, parse.File, s, want)
	}
}

func TestPlacesOfStatements(t *testing.T) {
	for s, want := range map[string]string{
		"":                                     "Block@0",
		"  \n":                                 "Block@0",
		"  { }":                                "Block@2(Block@2)",
		" {\n f() }":                           "Block@1(Block@1(Do@4(Call:f@4)))",
		" f(); g()":                            "Block@1(Do@1(Call:f@1) Do@6(Call:g@6))",
		" var a []int":                         "Block@1(Var:a@1(Slice@7(Type:int@9)))",
		" var a int = 1":                       "Block@1(Var:a@1(Type:int@7 Int:1@13))",
		" a := 1":                              "Block@1(Define#1@1(Name:a@1 Int:1@6))",
		" a, b := f(1)":                        "Block@1(Define#2@1(Name:a@1 Name:b@4 Call:f@9(Int:1@11)))",
		" a.b[1] = 2":                          "Block@1(Assign#1@1(Index@1(Part:b@1(Name:a@1) Int:1@5) Int:2@10))",
		" $$, a = $1, $12":                     "Block@1(Assign#2@1(Dollar@1 Name:a@5 Dollar#1@9 Dollar#12@13))",
		" if a {} else {}":                     "Block@1(If@1(Name:a@4 Block@6 Block@14))",
		" if a {} else if b {}":                "Block@1(If@1(Name:a@4 Block@6 If@14(Name:b@17 Block@19)))",
		" for {}":                              "Block@1(For@1(Block@5))",
		" for a {}":                            "Block@1(For@1(Name:a@5 Block@7))",
		" l : for a {}":                        "Block@1(For:l@1(Name:a@9 Block@11))",
		" l:\n for {}":                         "Block@1(For:l@1(Block@9))",
		" switch a { }":                        "Block@1(Switch@1(Name:a@8))",
		" switch a { case 1 , b : default : }": "Block@1(Switch@1(Name:a@8 Case@12(Int:1@17 Name:b@21 Block@0) Case@25(Block@0)))",
		" switch a { case 1: f(); g(); default: { } }": "Block@1(Switch@1(Name:a@8 Case@12(Int:1@17 Block@20(Do@20(Call:f@20) Do@25(Call:g@25))) Case@30(Block@39(Block@39))))",
		" return":               "Block@1(Return@1)",
		" return a, b":          "Block@1(Return@1(Name:a@8 Name:b@11))",
		" break; break l":       "Block@1(Break@1 Break:l@8)",
		" continue; continue l": "Block@1(Continue@1 Continue:l@11)",
	} {
		stands(t, parse.Action, s, want)
	}
}

func TestPlacesOfExpressions(t *testing.T) {
	for s, want := range map[string]string{
		"1":                    "Int:1@4",
		" 1.5":                 "Float:1.5@5",
		" \"a\"":               "String:a@5",
		" true":                "Bool#1@5",
		" false":               "Bool@5",
		" a":                   "Name:a@5",
		" $9":                  "Dollar#9@5",
		"-a":                   "Unary:-@4(Name:a@5)",
		"! - (a)":              "Unary:!@4(Unary:-@6(Name:a@8))",
		"a + b":                "Binary:+@4(Name:a@4 Name:b@8)",
		"-a + b":               "Binary:+@4(Unary:-@4(Name:a@5) Name:b@9)",
		"a + b + c":            "Binary:+@4(Binary:+@4(Name:a@4 Name:b@8) Name:c@12)",
		"a || b * -c":          "Binary:||@4(Name:a@4 Binary:*@9(Name:b@9 Unary:-@13(Name:c@14)))",
		"(a)":                  "Name:a@4",
		"( a)":                 "Name:a@4",
		" ( ( a ) )":           "Name:a@5",
		"(a + b)":              "Binary:+@4(Name:a@5 Name:b@9)",
		"((a) + b)":            "Binary:+@4(Name:a@5 Name:b@11)",
		"(a) + (b)":            "Binary:+@4(Name:a@4 Name:b@10)",
		"(a + b) * c":          "Binary:*@4(Binary:+@4(Name:a@5 Name:b@9) Name:c@14)",
		"(-a)":                 "Unary:-@4(Name:a@6)",
		"-(a)":                 "Unary:-@4(Name:a@5)",
		"f( a, (b))":           "Call:f@4(Name:a@7 Name:b@10)",
		"(f)":                  "Name:f@4",
		"(f())":                "Call:f@4",
		"(f(a))":               "Call:f@4(Name:a@7)",
		"a[b]":                 "Index@4(Name:a@4 Name:b@6)",
		"a[ :b]":               "UpTo@4(Name:a@4 Name:b@8)",
		"a .b":                 "Part:b@4(Name:a@4)",
		"(a).b[c]":             "Index@4(Part:b@4(Name:a@4) Name:c@10)",
		"(a.b)":                "Part:b@4(Name:a@5)",
		"(a.b)[c]":             "Index@4(Part:b@4(Name:a@5) Name:c@10)",
		"(a[0])":               "Index@4(Name:a@5 Int:0@7)",
		"f().a":                "Part:a@4(Call:f@4)",
		"[]int{1, 2}":          "List@4(Slice@4(Type:int@6) Int:1@10 Int:2@13)",
		"[ ] [ ]p{}":           "List@4(Slice@4(Slice@8(Type:p@11)))",
		"([]p{})":              "List@4(Slice@5(Type:p@7))",
		"p { a : 1 , b : (c)}": "Make:p@4(Key:a@8(Int:1@12) Key:b@16(Name:c@20))",
		"(p{})":                "Make:p@4",
		"p{}.a":                "Part:a@4(Make:p@4)",
	} {
		stands(t, parse.Action, "x = "+s, "Block@0(Assign#1@0(Name:x@0 "+want+"))")
	}
}
