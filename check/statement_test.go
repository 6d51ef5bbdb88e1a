package check_test

import (
	"strings"
	"testing"

	"gristmill/api"
)

// P7.2.
func TestBlocks(t *testing.T) {
	t.Parallel()
	isIn(t, "")
	isIn(t, "{ }; { { }; { } }")
	isIn(t, "a := 1; { a := true; { a := s; s = a }; b = a }; n = a")
	isIn(t, "{ a := 1; n = a }; { a := true; b = a }; { var a []int; l = a }")
	failsIn(t, "^a := 1", api.ErrUnused, "Name:a")
	failsIn(t, "^var a int", api.ErrUnused, "Var:a")
	failsIn(t, "^var a int = n", api.ErrUnused, "Var:a")
	failsIn(t, "a, ^c := two(); n = a", api.ErrUnused, "Name:c")
	failsIn(t, "a, ^c, d := three(); n = a; b = d", api.ErrUnused, "Name:c")
	failsIn(t, "c := 1; ^a := 2; d := 3; e := 4; n = c; n = e", api.ErrUnused, "Name:a")
	failsIn(t, "d := 3; ^a := 2; c := 1; n = d; c = 2", api.ErrUnused, "Name:a")
	failsIn(t, "{ ^a := 1 }; n = a", api.ErrUnused, "Name:a")
	failsIn(t, "{ a := 1; n = a }; n = ^a", api.ErrName, "Name:a")
	failsIn(t, "n = ^a; a := 1; n = a", api.ErrName, "Name:a")
	failsIn(t, "a := ^a; n = a", api.ErrName, "Name:a")
	failsIn(t, "var a int = ^a; n = a", api.ErrName, "Name:a")
}

func TestUnused(t *testing.T) {
	t.Parallel()
	failsIn(t, "^a := 1; a = 2; a = n", api.ErrUnused, "Name:a")
	failsIn(t, "^a := 1; c := 2; a, c = c, n", api.ErrUnused, "Name:a")
	failsIn(t, "^a, c := two(); a, c = two(); s = c", api.ErrUnused, "Name:a")
	failsIn(t, "^a := 1; { a = 2; { a = 3 } }", api.ErrUnused, "Name:a")
	failsIn(t, "^a := 1; { a := 2; n = a }", api.ErrUnused, "Name:a")
	failsIn(t, "a := 1; { ^a := a }; n = a", api.ErrUnused, "Name:a")
	failsIn(t, "a := 1; { ^a := true; { a := 3; n = a } }; n = a", api.ErrUnused, "Name:a")
	failsIn(t, "a := 1; n = ^s", api.ErrType, "Name:s")
	isIn(t, "a := 1; { { n = a } }")
	isIn(t, "a := 1; { a := a; n = a }")
	isIn(t, "a := 1; a = a")
	isIn(t, "a := 1; a = a + n")
	isIn(t, "a := l; a[0] = 1")
	isIn(t, "a := ls; a[0][1] = 2")
	isIn(t, "a := 1; l[a] = 2")
	isIn(t, "a := p; a.a = 1")
	isIn(t, "a := ts; a[0].of.b = s")
	isIn(t, "a := 1; c := 2; a, l[a], c = 3, c, 4")
	isIn(t, "var a []int; n = len(a)")
	isIn(t, "a := true; if a { }")
	isIn(t, "a := true; for a { }")
	isIn(t, "a := 1; switch a { }")
	isIn(t, "a := 1; switch n { case a: }")
	isIn(t, "a := s; panic(a)")
}

// TestUnusedInAllBlocks has a variable that is not used in each block that there is, and a fault that is met behind it.
func TestUnusedInAllBlocks(t *testing.T) {
	t.Parallel()
	for _, around := range []string{"{ @ }", "if b { @ }", "if b { } else { @ }", "if b { } else if b { @ }", "if b { } else if b { } else { @ }", "for { @ }", "for b { @ }", "a: for b { @; break a }", "switch n { case 1: @\n }", "switch n { case 1: n = 2; default: @\n }", "switch n { case one(): n = 2\n case 2: n = 3\n case 3: @\n }"} {
		failsIn(t, strings.Replace(around, "@", "n = 1; ^z := 1; z = 2", 1)+"; n = s", api.ErrUnused, "Name:z")
		failsIn(t, strings.Replace(around, "@", "n = 1; ^var z int", 1)+"; n = s", api.ErrUnused, "Var:z")
		isIn(t, strings.Replace(around, "@", "n = 1; z := 1; { z = z }", 1))
		failsIn(t, strings.Replace(around, "@", "z := 1; n = z", 1)+"; n = ^z", api.ErrName, "Name:z")
		failsIn(t, "z := true; "+strings.Replace(around, "@", "z := 1; n = z", 1)+"; n = ^z", api.ErrType, "Name:z")
	}
}

func TestToDeclare(t *testing.T) {
	t.Parallel()
	for _, name := range append(strings.Fields("pair tree two one none takes f"), known...) {
		failsIn(t, "^var "+name+" int", api.ErrTwice, "Var:"+name)
		failsIn(t, "^"+name+" := 1", api.ErrTwice, "Name:"+name)
		failsIn(t, "{ { ^"+name+" := 1 } }", api.ErrTwice, "Name:"+name)
		failsIn(t, "^"+name+", c := two()", api.ErrTwice, "Name:"+name)
		failsIn(t, "c, ^"+name+" := two()", api.ErrTwice, "Name:"+name)
	}
	failsIn(t, "a := 1; ^a := 2; n = a", api.ErrTwice, "Name:a")
	failsIn(t, "a := 1; ^a := true; n = a", api.ErrTwice, "Name:a")
	failsIn(t, "a := 1; ^var a int; n = a", api.ErrTwice, "Var:a")
	failsIn(t, "var a int; n = a; ^a := 2", api.ErrTwice, "Name:a")
	failsIn(t, "a, ^a := two(); n = a", api.ErrTwice, "Name:a")
	failsIn(t, "c := 1; a, ^c := two(); n = a; n = c", api.ErrTwice, "Name:c")
	failsIn(t, "a, c, ^a := three(); n = a", api.ErrTwice, "Name:a")
	fails(t, given+"func f(n int) { ^n := 1 }", api.ErrTwice, "Name:n")
	isIn(t, "{ a := 1; n = a }; a := 2; n = a")
	isIn(t, "a := 2; { a, n := two(); s = n; b = a == 1 }; n = a")
	isIn(t, "init := 1; n = init; nil := s; s = nil; main := l; l = main; string_ := b; b = string_; a := 1; A := a; n = A")
}

func TestVars(t *testing.T) {
	t.Parallel()
	isIn(t, "var a int; n = a; var c bool; b = c; var d []pair; d = d; var e [][]tree; e = e; var g pair; p = g")
	isIn(t, "var a int = 1; n = a; var c [][]int = ls; ls = c; var d pair = pair{}; p = d")
	isIn(t, "var a string = word(); s = a; var c float64 = 1.5; x = c")
	failsIn(t, "var a ^undeclared", api.ErrName, "Type:undeclared")
	failsIn(t, "var a [][]^undeclared = undeclared", api.ErrName, "Type:undeclared")
	failsIn(t, "var n ^n", api.ErrName, "Type:n")
	failsIn(t, "var a ^len", api.ErrName, "Type:len")
	failsIn(t, "var a ^two", api.ErrName, "Type:two")
	failsIn(t, "var n int = ^undeclared", api.ErrName, "Name:undeclared")
	failsIn(t, "var n int = ^s", api.ErrType, "Name:s")
	failsIn(t, "var a []int = ^n", api.ErrType, "Name:n")
	failsIn(t, "var a []int = ^ls", api.ErrType, "Name:ls")
	failsIn(t, "var a tree = ^p", api.ErrType, "Name:p")
	failsIn(t, "var a float64 = ^1", api.ErrType, "Int:1")
	failsIn(t, "var a int = ^two()", api.ErrCount, "Call:two")
	failsIn(t, "var n int = ^none()", api.ErrCount, "Call:none")
	failsIn(t, "^var n int = 1", api.ErrTwice, "Var:n")
}

func TestDefinitions(t *testing.T) {
	t.Parallel()
	isIn(t, "a := 1; n = a; c := one(); n = c; d := l; n = d[0]")
	isIn(t, "a, c := two(); n = a; s = c; d, e, g := three(); n = d; s = e; b = g; h, i := pairs(); p = h; p = i[0]")
	failsIn(t, "a := ^undeclared", api.ErrName, "Name:undeclared")
	failsIn(t, "n := ^undeclared", api.ErrName, "Name:undeclared")
	failsIn(t, "a := ^two()", api.ErrCount, "Call:two")
	failsIn(t, "n := ^none()", api.ErrCount, "Call:none")
	failsIn(t, "a := ^panic(s)", api.ErrCount, "Call:panic")
	failsIn(t, "a, c := ^one()", api.ErrCount, "Call:one")
	failsIn(t, "a, c := ^none()", api.ErrCount, "Call:none")
	failsIn(t, "a, a := ^three()", api.ErrCount, "Call:three")
	failsIn(t, "a, c, d := ^two()", api.ErrCount, "Call:two")
	failsIn(t, "a, c := ^len(s)", api.ErrCount, "Call:len")
	failsIn(t, "n, c := ^undeclared()", api.ErrName, "Call:undeclared")
	failsIn(t, "n, c := ^two(n)", api.ErrCount, "Call:two")
	failsIn(t, "n, c := gives(n, ^n, b)", api.ErrType, "Name:n")
}

func TestAssignments(t *testing.T) {
	t.Parallel()
	isIn(t, "n = 1; s = word(); b = !b; x = 1.5; l = []int{}; p = pair{}; ts = []tree{q}; q = ts[0]; ls = ls")
	isIn(t, "l[0] = 1; l[n] = n; ls[0] = l; ls[1][2] = 3; p.a = 1; p.b = s; q.of = p; q.of.b = s; q.kids = ts; ts[0] = q; ts[n].kids[0].of.a = 3; q.kids[0].kids = q.kids")
	isIn(t, "n, s = 1, word(); s, n = s, n; l[n], n, s = n, 1, s; n, b, s = n, b, s")
	isIn(t, "n, s = two(); l[0], s = two(); p.a, w[0] = two(); n, s, b = three(); p, q.kids[0].of.b, b = p, s, b; l[n], p.b, b = three()")
	for _, place := range []string{"^undeclared", "^one", "^pair", "^len", "^int"} {
		failsIn(t, place+" = 1", api.ErrName, "Name:"+place[1:])
		failsIn(t, place+" = undeclared", api.ErrName, "Name:"+place[1:])
		failsIn(t, place+"[0] = 1", api.ErrName, "Name:"+place[1:])
		failsIn(t, place+".a[undeclared] = 1", api.ErrName, "Name:"+place[1:])
		failsIn(t, "n, "+place+" = undeclared()", api.ErrName, "Name:"+place[1:])
	}
	failsIn(t, "^n[0] = s", api.ErrType, "Index")
	failsIn(t, "^s[0] = s", api.ErrType, "Index")
	failsIn(t, "l[^s] = s", api.ErrType, "Name:s")
	failsIn(t, "l[^-1] = s", api.ErrConst, "Unary:-")
	failsIn(t, "l[^undeclared] = s", api.ErrName, "Name:undeclared")
	failsIn(t, "^l.a = s", api.ErrType, "Part:a")
	failsIn(t, "^p.c = undeclared", api.ErrName, "Part:c")
	failsIn(t, "ts[n].kids[^none()].of = undeclared", api.ErrCount, "Call:none")
	failsIn(t, "n = ^s", api.ErrType, "Name:s")
	failsIn(t, "l = ^ls", api.ErrType, "Name:ls")
	failsIn(t, "l[0] = ^l", api.ErrType, "Name:l")
	failsIn(t, "p = ^q", api.ErrType, "Name:q")
	failsIn(t, "q.of.b = ^n", api.ErrType, "Name:n")
	failsIn(t, "n = ^none()", api.ErrCount, "Call:none")
	failsIn(t, "n = ^two()", api.ErrCount, "Call:two")
	failsIn(t, "n = ^undeclared", api.ErrName, "Name:undeclared")
	failsIn(t, "n, s = 1, ^2", api.ErrType, "Int:2")
	failsIn(t, "n, s = ^s, n", api.ErrType, "Name:s")
	failsIn(t, "n, s = ^two(), s", api.ErrCount, "Call:two")
	failsIn(t, "n, s = ^s, undeclared", api.ErrType, "Name:s")
	failsIn(t, "n, s = ^undeclared, n", api.ErrName, "Name:undeclared")
	failsIn(t, "n, s, b = 1, s, ^panic(s)", api.ErrCount, "Call:panic")
	failsIn(t, "n, s = ^three()", api.ErrCount, "Call:three")
	failsIn(t, "n, s, b = ^two()", api.ErrCount, "Call:two")
	failsIn(t, "n, s = ^one()", api.ErrCount, "Call:one")
	failsIn(t, "n, s = ^none()", api.ErrCount, "Call:none")
	failsIn(t, "s, n = ^three()", api.ErrCount, "Call:three")
	failsIn(t, "s, n = ^two()", api.ErrType, "Call:two")
	failsIn(t, "n, l = ^two()", api.ErrType, "Call:two")
	failsIn(t, "n, s, ^undeclared = three()", api.ErrName, "Name:undeclared")
	failsIn(t, "n, s, l[0] = ^three()", api.ErrType, "Call:three")
	failsIn(t, "p, ts = ^pairs()", api.ErrType, "Call:pairs")
	failsIn(t, "n, s = ^undeclared()", api.ErrName, "Call:undeclared")
	failsIn(t, "s, n = ^two(undeclared)", api.ErrCount, "Call:two")
}

func TestPlacesOfOneVariable(t *testing.T) {
	t.Parallel()
	for _, places := range []string{"n, ^n", "n, s, ^n", "n, s, ^s", "l, ^l", "n, s, b, ^s, n"} {
		last := places[strings.Index(places, "^")+1:]
		failsIn(t, places+" = undeclared()", api.ErrTwice, "Name:"+last[:1])
	}
	failsIn(t, "l, ^l[0] = l, 1", api.ErrTwice, "Index")
	failsIn(t, "l[0], ^l = 1, l", api.ErrTwice, "Name:l")
	failsIn(t, "l[0], ^l[1] = 1, 2", api.ErrTwice, "Index")
	failsIn(t, "p.a, ^p.b = undeclared()", api.ErrTwice, "Part:b")
	failsIn(t, "q.of.a, n, ^q.kids[0].of.b = 1, 2, n", api.ErrTwice, "Part:b")
	failsIn(t, "ls[0][1], ts, ^ls[n] = undeclared, n, s", api.ErrTwice, "Index")
	failsIn(t, "n, ^n, undeclared = 1, 2, 3", api.ErrTwice, "Name:n")
	failsIn(t, "n, ^undeclared, n = 1, 2, 3", api.ErrName, "Name:undeclared")
	failsIn(t, "^undeclared, undeclared = 1, 2", api.ErrName, "Name:undeclared")
	failsIn(t, "l, l[^undeclared] = l, 1", api.ErrName, "Name:undeclared")
	isIn(t, "l[n], n = n, l[n]; l[l[0]] = 1; n, l[n] = 1, n; p.a, q.of.a = 1, 2")
	isIn(t, "n2 := 1; n, n2 = n2, n")
}

func TestIfs(t *testing.T) {
	t.Parallel()
	isIn(t, "if b { }; if true { } else { }; if n == 1 { n = 2 } else if !b { n = 3 } else { n = 4 }; if b { } else if b { }")
	for _, around := range []string{"if @ { undeclared() }", "if @ { undeclared() } else { undeclared() }", "if b { } else if @ { undeclared() }", "for @ { undeclared() }", "if b { } else if b { } else if @ { n = s } else { }", "a: for @ { }"} {
		for x, at := range map[string]string{"^n": "Name:n", "^s": "Name:s", "^l": "Name:l", "^p": "Name:p", "^1": "Int:1", "^1.5": "Float:1.5", "^\"a\"": "String:a", "^one()": "Call:one", "^(pair{})": "Make:pair"} {
			failsIn(t, strings.Replace(around, "@", x, 1), api.ErrType, at)
		}
		failsIn(t, strings.Replace(around, "@", "^none()", 1), api.ErrCount, "Call:none")
		failsIn(t, strings.Replace(around, "@", "^two()", 1), api.ErrCount, "Call:two")
		failsIn(t, strings.Replace(around, "@", "^undeclared", 1), api.ErrName, "Name:undeclared")
	}
	failsIn(t, "if b { ^undeclared() } else { n = s }", api.ErrName, "Call:undeclared")
	failsIn(t, "if b { n = ^s } else if n { }", api.ErrType, "Name:s")
	failsIn(t, "if b { } else { n = ^s }", api.ErrType, "Name:s")
	failsIn(t, "if b { } else if b { n = ^s } else { undeclared() }", api.ErrType, "Name:s")
	failsIn(t, "if b { } else if b { } else { n = ^s }", api.ErrType, "Name:s")
	isIn(t, "if b { a := 1; n = a } else { a := s; s = a }")
}

func TestFors(t *testing.T) {
	t.Parallel()
	isIn(t, "for { }; for b { n = 1 }; for n < 3 { n = n + 1; if b { break } else { continue } }")
	isIn(t, "a: for { break a }; c: for b { continue c }; d: for { e: for b { break d; continue e }; break }; g: for b { switch n { case 1: break\n case 2: continue g\n } }")
	failsIn(t, "^a: for { }", api.ErrUnused, "For:a")
	failsIn(t, "^a: for b { n = 1 }", api.ErrUnused, "For:a")
	failsIn(t, "^a: for { break; continue }", api.ErrUnused, "For:a")
	failsIn(t, "^a: for { c: for { break c } }", api.ErrUnused, "For:a")
	failsIn(t, "a: for { ^c: for { break a } }", api.ErrUnused, "For:c")
	failsIn(t, "a: for { ^c: for { continue a } }", api.ErrUnused, "For:c")
	failsIn(t, "a: for { c: for { ^c: for { } } }", api.ErrTwice, "For:c")
	failsIn(t, "a: for { break a }; ^a: for { break a }", api.ErrTwice, "For:a")
	failsIn(t, "a: for { break a }; ^a: for n { }", api.ErrTwice, "For:a")
	failsIn(t, "a: for { ^a: for n { break a } }", api.ErrTwice, "For:a")
	failsIn(t, "a: for { break a; { if b { ^a: for n { break a } } } }", api.ErrTwice, "For:a")
	failsIn(t, "{ { a: for { break a } } }; for { switch n { case 1: ^a: for n { break a }\n } }", api.ErrTwice, "For:a")
	failsIn(t, "a: for ^n { }", api.ErrType, "Name:n")
	failsIn(t, "a: for { n = ^s }", api.ErrType, "Name:s")
	failsIn(t, "a: for { ^c := 1 }", api.ErrUnused, "Name:c")
	passes(t, "package p; func f() { a: for { break a } }; func g() { a: for { continue a } }; func h() { a: for { for { break a } } }")
	isIn(t, "n: for { break n }; f: for { break f }; int: for { continue int }; len: for { break len }; undeclared: for b { a := 1; n = a; continue undeclared }")
}
