package parse_test

import (
	"testing"

	"gristmill/api"
	"gristmill/parse"
)

func TestSyntaxFaultsOfActions(t *testing.T) {
	for _, s := range []string{
		"^;", "f();^;", "^else", "^case 1:", "^default:", "^type t struct {}", "^package p", "^func f() {}", "^1", "^1.5", "^\"a\"", "^true", "^(f())", "^[]int{}", "^-a", "^!a", "^)", "^]", "^=", "^:=", "^:", "^,", "^.", "^struct", "^&& a",
		"{^; }", "{ f();^; }", "{ f()^) }", "{ f()^", "{^", "{ } ^{ }", "{ } ^f()", "{ };^;", "{ { }^",
		"f() ^g()", "f()^.a = 1", "f()^[0] = 1", "f()^()", "f() ^= 1", "f()^, a = 1, 2", "f() ^:= 1", "f() ^+ 1", "f(^,)", "f(1^", "f(1,^,)", "f(1 ^2)", "f(1^\n)", "f(1^;)", "f(^", "f(x ^= 1)", "f(x ^:= 1)", "f(^{ })", "f(^return)", "f()^1", "f(a^: 1)",
		"x^", "x ^+ 1", "x ^y", "x ^1", "x ^{ }", "x.^1", "x.^(", "x.^if", "x[^] = 1", "x[^:1] = 1", "x[1^", "x[1 ^1]", "x[1]^", "x[1] ^:= 1", "x.y ^:= 1", "x, y.z ^:= f()", "x[1], y ^:= f()", "x.y^(1)", "x.y^: for { }", "x, ^1 = 1, 2", "x, ^= 1", "x, ^", "x, y^", "x, f^() = 1, 2", "x, f^: for { }", "x ^== 1", "x .^= 1", "x, ^(y) = 1, 2", "x,^, y = 1, 2", "x ^\"a\"", "x[0] ^y = 1", "x, y ^z = 1",
		"x := ^", "x := ^;", "x := 1^, 2", "x := f()^, 1", "x := 1 ^y", "x := 1 ^:= 2", "x := 1 ^= 2", "x, y := ^1", "x, y := ^(f())", "x, y := f^", "x, y := f^.a", "x, y := f() ^+ 1", "x, y := f()^.a", "x, y := f()^, 1", "x, y := f()^[0]", "x, y := ^-f()", "x, y := ^[]int{}", "x, y := f^{ }", "x, y := ^true", "x, x ^== 1", "x, y := f() ^g()",
		"x = ^", "x = ^;", "x = 1^, 2", "x = f()^, 2", "x = 1 ^= 2", "x = 1 ^:= 2", "x, y = 1^", "x, y = 1^;", "x, y = 1, 2^, 3", "x, y = f() ^g()", "x, y = f() + 1^", "x, y = (f())^", "x, y = f().a^", "x, y = f()[0]^", "x, y = -f()^", "x, y = f^", "x, y, z = f(), 1^", "x, y, z = 1, f()^", "x, y, z = 1, 2, 3^, 4", "x, y, z = 1^", "x, y = f(), ^", "x, y = f(),^;", "x.a, y[0] = 1^", "x, y = p{}^",
		"var ^", "var ^1 int", "var x^", "var x ^= 1", "var x ^1", "var x int ^1", "var x int ^:= 1", "var x int = ^", "var x int^, y int", "var x []^", "var x [^1]int", "var x int^[]", "var x^, y int", "var x int = 1^, 2", "var x t ^{ }", "var x^.y int", "var x t^.u", "var x ^if", "var ^(x int)", "var x ^(int)", "var x ^struct { }",
		"if ^", "if ^{ }", "if a^", "if a^;", "if a { ^", "if a { } ^{ }", "if a { } else ^", "if a { } else ^f()", "if a { } else ^for { }", "if a { } else { } ^else { }", "if a { }; ^else { }", "if a { }\n^else { }", "if x ^:= 1; x { }", "if f() ^f()", "if a { } ^f()", "if a^, b { }", "if a ^= b { }", "if a { } else if ^{ }", "if a { } else if b ^else { }", "if a { } ^if b { }", "if (a { }^",
		"if p { a: ^1 } { }", "if p { } ^{ }", "if a == p { } ^{ }", "if !p { } ^{ }", "if p { } ^== p { }", "if (p) { } ^{ }", "if f(p { ^1 }) { }", "if []p { } { } ^{ }", "if (a) == p { } ^{ }", "if a[b] == p { } ^{ }", "if f(p{}) == p { } ^{ }", "if []p{p{}}[0] == p { } ^{ }", "if (p{}) == p { } ^{ }", "if a[p{}] == p { } ^{ }", "if a { } else if p { } ^{ }", "if a && p { } ^{ }", "if a { if p { } ^{ } }", "for p { } ^{ }", "for p { } ^.a { }", "switch p { } ^.a", "switch p { ^a: 1 } { }", "switch p { } ^{ case 1: }", "if a.p { } ^{ }", "if p.a { } ^.b { }", "if f() { } ^{ }", "for { } ^{ }",
		"for ^;", "for ^; { }", "for x ^:= 1 { }", "for a^; b; c { }", "for a { } ^{ }", "for ^", "for a^", "for {^", "l: ^", "l: ^f()", "l: ^{ }", "l: ^if a { }", "l: ^l: for { }", "l, m^: for { }", "l: ^;", "l.m^: for { }", "l:^: for { }", "l: for ^;", "l: ^switch a { }",
		"switch ^{ }", "switch a^", "switch a { ^f() }", "switch a { ^;", "switch a { ^{ } }", "switch a { case ^: }", "switch a { case 1 ^}", "switch a { case 1, ^: }", "switch a { case 1^; }", "switch a { default ^1: }", "switch a { default: ^; }", "switch a { case 1: f();^; }", "switch a { case 1: ^", "switch a { case 1: f() ^case 2: }", "switch a { case 1: return ^case 2: }", "switch a { case 1: return ^default: }", "switch a { case 1: { } ^default: }", "switch a { case 1: break ^default: }", "switch a { case 1: f()^) }", "switch a { } ^case 1:", "switch a ^case 1: { }", "switch a { default: } ^{ }", "switch a { case x ^:= 1: }", "switch a { case 1: ^else }", "switch a { case 1: f() ^g() }", "switch a { case 1:^: }", "switch a { case 1 ^2: }", "switch a { default^, 1: }", "switch a { case 1: case ^default: }",
		"return 1 ^2", "return ^if", "return ^)", "return a, ^", "return a ^= 1", "return a, b ^c", "return ^{ }", "return a,^;", "return (a^, b)", "return ^:= 1", "break ^1", "break l ^m", "break l^.m", "continue ^1", "continue l^: for { }", "break ^{ }", "break ^if", "continue^, l",
		"x = (^)", "x = (1^", "x = (1^, 2)", "x = (1^]", "x = (1)^)", "x = 1^]", "x = (1^,)", "x = ((1)^",
		"x = []^", "x = [^1]int{}", "x = []int^", "x = []int^(1)", "x = []int{^,}", "x = []int{1^", "x = []int{1 ^2}", "x = []int{1,^,}", "x = []int{1^: 2}", "x = []int{1^\n}", "x = []^{ }", "x = [][^", "x = []int ^+ 1", "x = []int{1^; 2}", "x = []int^[]{}",
		"x = p{^1}", "x = p{a^}", "x = p{a: ^}", "x = p{a: 1 ^b: 2}", "x = p{a: 1,^,}", "x = p{^,}", "x = p{a^, b}", "x = p{a^.b: 1}", "x = p{a: 1^; b: 2}", "x = p{a: 1^\n}", "x = p{p^{}: 1}", "x = p{a ^= 1}", "x = p{} ^{}", "x = q.p^{}", "x = p;^;{}", "x = p{^\"a\": 1}", "x = (p)^{}", "x = p{a:^: 1}", "x = f()^{}",
		"x = f(1)^(2)", "x = f(1)^{ }", "x = (f)^(1)", "x = a.f^(1)", "x = a[0]^(1)", "x = a ^b", "x = 1 ^2", "x = 1 ^a", "x = a + ^", "x = a + ^* b", "x = a ^!b", "x = ^+a", "x = ^*a", "x = a ^! = b", "x = a == ^= b", "x = a[^]", "x = a[b^:]", "x = a[b^:c]", "x = a[:^]", "x = a[:b^:c]", "x = a[b^, c]", "x = a.^1", "x = a.^(b)", "x = a.^type", "x = a.^$1", "x = a.b ^c", "x = ^if", "x = ^var", "x = ^func", "x = ^.a", "x = -^", "x = !^;", "x = a ^: b", "x = \"a\" ^\"b\"", "x = a || ^|| b", "x = a[0^", "x = a.^", "x = a ^:= b", "x = true ^false", "x = a - ^/ b",
	} {
		stops(t, s)
	}
}

// What a file's end, or its dollars, make different from an action.
func TestSyntaxFaultsOfActionsAlone(t *testing.T) {
	for s, at := range map[string]int{
		"}": 0, "f() }": 4, "f(); }": 5, "x = 1}": 5, "{ } }": 4, "if a { } }": 9, "switch a { } }": 13, "return }": 7, "f(); } func g() { f()": 5,
		"$1: for { }": 2, "$1()": 2, "$1 := 1": 3, "$$ := f()": 3, "x, $1 := f()": 6, "$1, x := f()": 6, "$1": 2, "$$ $$": 3, "$1 + 1": 3, "x = $1 $2": 7, "x = $1(1)": 6, "x = $1{}": 6, "f().$1 = 2": 3, "x := 1; if x == p{} {}": 20, "x.$1 = 2": 2, "x = p{$1: 2}": 6, "var $1 int": 4, "var x $1": 6, "break $1": 6, "l: $1": 3, "x, y := $1": 8, "x, y = $1": 9, "x, y := $1()": 8,
	} {
		fails(t, parse.Action, s, api.ErrSyntax, at)
	}
}

func TestSyntaxFaultsOfFiles(t *testing.T) {
	for s, at := range map[string]int{
		"": 0, " ": 1, ";": 0, "p": 0, "x = 1": 0, "type t struct {}": 0, "func f() {}": 0, "package": 7, "package 1": 8, "package \"p\"": 8, "package if": 8, "package;": 7, "package p q": 10, "package p.q": 9, "package p {": 10, "package p type t struct {}": 10, "package p;;": 10, "package p; package q": 11,
		"package p; x = 1": 11, "package p; f()": 11, "package p; var x int": 11, "package p; {}": 11, "package p; }": 11, "package p; $1 = 2": 11, "package p; $$": 11, "package p; struct": 11, "package p; if a {}": 11,
		"package p; type": 15, "package p; type 1": 16, "package p; type t": 17, "package p; type t int": 18, "package p; type t []int": 18, "package p; type t = int": 18, "package p; type t struct": 24, "package p; type t struct (": 25, "package p; type t struct {": 26, "package p; type t struct { a }": 29, "package p; type t struct { a int b int }": 33, "package p; type t struct { a, b int }": 28, "package p; type t struct { a int, b int }": 32, "package p; type t struct { ; }": 27, "package p; type t struct { a int;; }": 33, "package p; type t struct { 1 int }": 27, "package p; type t struct { a 1 }": 29, "package p; type t struct { a [1]int }": 30, "package p; type t struct { a [] }": 32, "package p; type t struct { a int \"b\" }": 33, "package p; type t struct { a p.q }": 30, "package p; type t struct { a int } type u struct {}": 35, "package p; type t struct { a int }}": 34, "package p; type t struct { a struct {} }": 29, "package p; type t struct { $1 int }": 27,
		"package p; func": 15, "package p; func (": 16, "package p; func 1": 16, "package p; func f": 17, "package p; func f {}": 18, "package p; func f(": 18, "package p; func f(,) {}": 18, "package p; func f(a) {}": 19, "package p; func f(a, b int) {}": 19, "package p; func f(int, int) {}": 21, "package p; func f(a int b int) {}": 24, "package p; func f(a int,, b int) {}": 24, "package p; func f(a int; b int) {}": 23, "package p; func f(a int\n) {}": 23, "package p; func f(a int {}": 24, "package p; func f()": 19, "package p; func f();": 19, "package p; func f() () {}": 21, "package p; func f() (,) {}": 21, "package p; func f() (int {}": 25, "package p; func f() (int,, int) {}": 25, "package p; func f() (a int) {}": 23, "package p; func f() (int) int {}": 26, "package p; func f() int, int {}": 23, "package p; func f() int int {}": 24, "package p; func f() 1 {}": 20, "package p; func f() int;": 23, "package p; func f()\n{}": 19, "package p; func f() [1]int {}": 21, "package p; func f() { f() }}": 27, "package p; func f() {} func g() {}": 23, "package p; func f() {} ;;": 24, "package p; func f() {": 21, "package p; func f() {} = 1": 23, "package p; func f(a int) ({}": 26, "package p; func f(a $1) {}": 20, "package p; func f() $$ {}": 20,
		"package p; func f() { $1 = 2 }": 22, "package p; func f() { $$ = 2 }": 22, "package p; func f() { x = $1 }": 26, "package p; func f() { x, $$ = 1, 2 }": 25, "package p; func f() { if $1 {} }": 25, "package p; func f() { x = 1 + -$1 }": 31, "package p; func f() { x[$1] = 2 }": 24, "package p; func f() { f($1) }": 24, "package p; func f() { x = p{a: $1} }": 31, "package p; func f() { return $1 }": 29, "package p; func f() { switch a { case $1: } }": 38,
	} {
		fails(t, parse.File, s, api.ErrSyntax, at)
	}
}

func TestScansFaults(t *testing.T) {
	for s, want := range map[string]api.Fault{
		"x = 007":                           {Err: api.ErrToken, At: 4},
		"x = 1 & 2":                         {Err: api.ErrByte, At: 6},
		"x = \"":                            {Err: api.ErrToken, At: 4},
		"go f()":                            {Err: api.ErrToken, At: 0},
		"x = $0":                            {Err: api.ErrToken, At: 4},
		"_ = 1":                             {Err: api.ErrToken, At: 0},
		"if if if #":                        {Err: api.ErrByte, At: 9},
		")))) 1a":                           {Err: api.ErrToken, At: 5},
		"package ; range":                   {Err: api.ErrToken, At: 10},
		"\x00":                              {Err: api.ErrByte, At: 0},
		"x = 1 # $":                         {Err: api.ErrByte, At: 6},
		"package p; func f() { x = $1 $2 $": {Err: api.ErrToken, At: 32},
		"x++":                               {Err: api.ErrToken, At: 1},
		string(make([]byte, 65537)):         {Err: api.ErrLong, At: 0},
	} {
		fails(t, parse.Action, s, want.Err, want.At)
		fails(t, parse.File, s, want.Err, want.At)
	}
}
