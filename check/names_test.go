package check_test

import (
	"strings"
	"testing"

	"gristmill/api"
)

var known = strings.Fields("int bool string float64 len append panic")

// P7.1.
func TestFilesOfNothing(t *testing.T) {
	t.Parallel()
	passes(t, "package p")
	passes(t, "package init")
	passes(t, "package int")
	passes(t, "package mainly; func main() { }")
	passes(t, "package f; func f() { }; type p struct { }")
}

func TestMainIsRefused(t *testing.T) {
	t.Parallel()
	for _, s := range []string{"", "; func f() { }", "; func init() { }", "; func int() { }", "; func f() int { }", "; func f() { x := 1 }"} {
		f, where := asked(t, read(t, "package main"+s))
		if f != (api.Fault{Err: api.ErrName}) || where != nil {
			t.Errorf("%q: %v", s, f)
		}
	}
}

func TestNamesOfKids(t *testing.T) {
	t.Parallel()
	for _, name := range append([]string{"init"}, known...) {
		fails(t, "package p; ^func "+name+"() { }", api.ErrTwice, "Func:"+name)
		fails(t, "package p; ^type "+name+" struct { }", api.ErrTwice, "Struct:"+name)
		fails(t, "package p; func a(a none) { }; type b struct { }; ^type "+name+" struct { }; type b struct { }", api.ErrTwice, "Struct:"+name)
	}
	for _, name := range strings.Fields("main nil any error iota print cap make new int64 byte Int _int init_ x1 _1") {
		passes(t, "package p; func "+name+"() { "+name+"() }; type a struct { a int }")
		passes(t, "package p; type "+name+" struct { }; func f(a "+name+") "+name+" { return "+name+"{} }")
	}
	fails(t, "package p; func f() { }; ^func f() { }", api.ErrTwice, "Func:f")
	fails(t, "package p; func f() { }; ^type f struct { }", api.ErrTwice, "Struct:f")
	fails(t, "package p; type f struct { }; ^func f() { }", api.ErrTwice, "Func:f")
	fails(t, "package p; type f struct { }; ^type f struct { }", api.ErrTwice, "Struct:f")
	fails(t, "package p; type f struct { }; func g() { }; func h() { }; ^func g() { }; type f struct { }; func int() { }", api.ErrTwice, "Func:g")
	fails(t, "package p; type f struct { }; func g() { }; ^type len struct { }; func g() { }", api.ErrTwice, "Struct:len")
	passes(t, "package p; type f struct { }; func g() { }; type F struct { }; func G() { }")
}

func TestNamesOfFields(t *testing.T) {
	t.Parallel()
	fails(t, "package p; type s struct { a int; ^a int }", api.ErrTwice, "Field:a")
	fails(t, "package p; type s struct { a int; b int; c bool; ^b string; a int; d none }", api.ErrTwice, "Field:b")
	fails(t, "package p; type s struct { a int; ^a none }", api.ErrTwice, "Field:a")
	fails(t, "package p; type s struct { a ^none; a int }", api.ErrName, "Type:none")
	fails(t, "package p; type s struct { a int; b []^none; a int }", api.ErrName, "Type:none")
	fails(t, "package p; type s struct { a [][][]^f }; func f() { }", api.ErrName, "Type:f")
	for _, name := range strings.Fields("len append panic init nil byte p a") {
		fails(t, "package p; type s struct { a ^"+name+" }", api.ErrName, "Type:"+name)
	}
	passes(t, "package p; type s struct { s int; int int; len []t; append string; f bool; init []s; t t; bool bool }; type t struct { s float64; t []t; string string }; func f() { }")
	passes(t, "package p; type s struct { t t; u u }; type t struct { u u; v u }; type u struct { a int }")
}

// parameters of one function have their names in one block, with its body.
func TestNamesOfParameters(t *testing.T) {
	t.Parallel()
	fails(t, "package p; func f(a int, ^a int) { }", api.ErrTwice, "Field:a")
	fails(t, "package p; func f(a int, b int, c int, ^b bool, a int) { }", api.ErrTwice, "Field:b")
	fails(t, "package p; func f(a int) { ^a := 1 }", api.ErrTwice, "Name:a")
	fails(t, "package p; func f(a int) { ^var a int }", api.ErrTwice, "Var:a")
	fails(t, "package p; func f(^f int) { }", api.ErrTwice, "Field:f")
	fails(t, "package p; func f(a int, ^g int) { }; func g() { }", api.ErrTwice, "Field:g")
	fails(t, "package p; func f(a int, ^s s) { }; type s struct { }", api.ErrTwice, "Field:s")
	for _, name := range known {
		fails(t, "package p; func f(a int, ^"+name+" int) { }", api.ErrTwice, "Field:"+name)
	}
	passes(t, "package p; func f(a int, b bool) { }; func g(b int, a bool, init int, nil []int, p string) { }")
	passes(t, "package p; func f(a int) { { a := true; a = !a }; a = 2 }")
}

func TestTypesOfParameters(t *testing.T) {
	t.Parallel()
	fails(t, "package p; func f(a ^none) { }", api.ErrName, "Type:none")
	fails(t, "package p; func f(a int, b []^f) { }", api.ErrName, "Type:f")
	fails(t, "package p; func f(a int) ^none { }", api.ErrName, "Type:none")
	fails(t, "package p; func f(a int, a bool) (int, [][]^none, other) { }", api.ErrName, "Type:none")
	fails(t, "package p; func f(a int, a bool, len ^none) (other) { }", api.ErrName, "Type:none")
	fails(t, "package p; func f() int { }; func g() bool { x := 1 }; func h() ^len { }", api.ErrName, "Type:len")
	fails(t, "package p; func f() ^a { }; func g(b c) { }", api.ErrName, "Type:a")
	passes(t, "package p; func f(a int, b []s, c [][]s) (bool, s, []string) { return true, b[0], []string{} }; type s struct { }")
}

// faulty are Kids with one fault, by the time at which a file that it is met in is gone through.
var faulty = [][]struct {
	marked string
	e      api.Errno
	at     string
}{
	{{"^func init() { }", api.ErrTwice, "Func:init"}, {"^type len struct { }", api.ErrTwice, "Struct:len"}, {"func f1() { }; ^func f1() { }", api.ErrTwice, "Func:f1"}},
	{{"type s2 struct { a ^none }", api.ErrName, "Type:none"}, {"type t2 struct { a int; ^a int }", api.ErrTwice, "Field:a"}},
	{{"^type s3 struct { a s3 }", api.ErrLoop, "Struct:s3"}, {"^type t3 struct { a u3 }; type u3 struct { b t3 }", api.ErrLoop, "Struct:t3"}},
	{{"^" + sized("s4", 1<<15+1), api.ErrMany, "Struct:s4"}, {sized("t4", 1<<15) + "; ^type u4 struct { a t4 }", api.ErrMany, "Struct:u4"}},
	{{"func f5(a int, a ^none) { }", api.ErrName, "Type:none"}, {"func g5(len int) ^none { }", api.ErrName, "Type:none"}},
	{{"func f6(a int, ^a int) { }", api.ErrTwice, "Field:a"}, {"func g6() { x := ^none }", api.ErrName, "Name:none"}, {"func h6() { ^x := 1 }", api.ErrUnused, "Name:x"}, {"^func i6() int { }", api.ErrReturn, "Func:i6"}},
}

// TestTimes has a fault of one time with one of another, or of the same, ahead of it and behind it.
func TestTimes(t *testing.T) {
	t.Parallel()
	for i, ones := range faulty {
		for k, others := range faulty {
			for _, one := range ones {
				for _, other := range others {
					if one == other {
						continue
					}
					unmarked := strings.Replace(other.marked, "^", "", 1)
					if i <= k {
						fails(t, "package p; "+one.marked+"; "+unmarked, one.e, one.at)
					}
					if i < k {
						fails(t, "package p; "+unmarked+"; "+one.marked, one.e, one.at)
					}
				}
			}
		}
	}
}
