package check_test

import (
	"slices"
	"strconv"
	"strings"
	"testing"
	"time"

	"gristmill/api"
	"gristmill/check"
)

func sized(name string, values int) string {
	return strings.Join(sizedOnes(name, values), "; ")
}

// sizedOnes are a struct that is so many values, 3 at least, and others that it has, behind it: each of those is twice the one ahead of it, and one.
func sizedOnes(name string, values int) []string {
	sizes := []int{2}
	for sizes[len(sizes)-1]*2+1 < values {
		sizes = append(sizes, sizes[len(sizes)-1]*2+1)
	}
	part := func(i int) string { return name + "_" + strconv.Itoa(i) }
	var fields, others []string
	left := values - 1
	for i := len(sizes) - 1; i >= 0; i-- {
		for sizes[i] <= left {
			fields = append(fields, "f"+strconv.Itoa(len(fields))+" "+part(i))
			left -= sizes[i]
		}
		within := "a []" + name
		if i > 0 {
			within = "a " + part(i-1) + "; b " + part(i-1)
		}
		others = append(others, "type "+part(i)+" struct { "+within+" }")
	}
	if left > 0 {
		fields = append(fields, "last []"+part(0))
	}
	return append([]string{"type " + name + " struct { " + strings.Join(fields, "; ") + " }"}, others...)
}

func TestStructsThatHaveThemselves(t *testing.T) {
	t.Parallel()
	for _, marked := range []string{
		"^type a struct { a a }",
		"^type a struct { b int; c []a; d a; e a }",
		"^type a struct { b b }; type b struct { a a }",
		"type c struct { a a }; ^type a struct { b b }; type b struct { a a; c int }",
		"^type a struct { b b }; type b struct { c c }; type c struct { d d }; type d struct { x int; a a }",
		"type c struct { a a; b b }; type d struct { c c }; ^type a struct { a a }; type b struct { b b }",
		"type c struct { b b; a a }; type d struct { c c }; ^type a struct { a a }; type b struct { b b }",
		"type e struct { a int }; ^type a struct { e e; b b }; type b struct { e e; c c; a a }; type c struct { e e }",
		"type x struct { }; ^type a struct { x x; b []a; c b }; func f() { }; type b struct { y x; a []a; d a }",
		"type d struct { c c; e e }; type c struct { e e; d []d }; type e struct { a a; b b }; ^type a struct { b b; c []c }; type b struct { a a; e []e }",
	} {
		fails(t, "package p; "+marked, api.ErrLoop, "Struct:a")
	}
	passes(t, "package p; type a struct { a []a; b [][]a }")
	passes(t, "package p; type a struct { b []b }; type b struct { a a; c []b; d a }")
	passes(t, "package p; type a struct { b b; c b; d c }; type b struct { c c; d c }; type c struct { d d; a []a }; type d struct { }")
	passes(t, "package p; type d struct { a []d }; type c struct { d d; e d }; type b struct { c c; d d }; type a struct { b b; c c; d d }")
}

func TestSizes(t *testing.T) {
	t.Parallel()
	const most = 1 << 15
	for _, n := range []int{3, 4, 5, 6, 7, 100, 1000, 12345, most - 2, most - 1, most} {
		passes(t, "package p; "+sized("s", n))
	}
	for _, n := range []int{most + 1, most + 2, most + 3, 2 * most, 4*most + 1} {
		s := sized("s", n)
		fails(t, "package p; ^"+s, api.ErrMany, "Struct:s")
		fails(t, "package p; type t struct { }; ^"+s+"; type u struct { s s }", api.ErrMany, "Struct:s")
	}
	fails(t, "package p; "+sized("s", most)+"; ^type t struct { a s }; type u struct { a t; b int }", api.ErrMany, "Struct:t")
	fails(t, "package p; type x struct { }; ^type t struct { a s }; "+sized("s", most), api.ErrMany, "Struct:t")
	for _, n := range []int{most, most + 1} {
		ones := sizedOnes("s", n)
		ones[0] = "^" + ones[0]
		slices.Reverse(ones)
		if s := "package p; " + strings.Join(ones, "; "); n > most {
			fails(t, s, api.ErrMany, "Struct:s")
		} else {
			passes(t, strings.Replace(s, "^", "", 1))
		}
	}
	passes(t, "package p; "+sized("s", most)+"; type t struct { a []s; b []s; c [][]s }")
	passes(t, "package p; "+sized("s", most-1)+"; type t struct { a s }; "+sized("r", most))
	fails(t, "package p; "+sized("s", most-1)+"; ^type t struct { a s; b int }", api.ErrMany, "Struct:t")
	fails(t, "package p; "+sized("s", most-1)+"; ^type t struct { a s; b []s }", api.ErrMany, "Struct:t")
	fails(t, "package p; "+sized("s", most-1)+"; type e struct { }; ^type t struct { e e; a s }", api.ErrMany, "Struct:t")
}

// TestGreatOnes: a count of what is in them would be beyond all numbers.
func TestGreatOnes(t *testing.T) {
	t.Parallel()
	var b strings.Builder
	b.WriteString("package p; type s0 struct { a int }")
	for i := range 600 {
		last := " s" + strconv.Itoa(i)
		b.WriteString("; type s" + strconv.Itoa(i+1) + " struct { a" + last + "; b" + last + "; c" + last + " }")
	}
	at := strings.Index(b.String(), "type s9 ")
	if f := check.File(read(t, b.String())); f != (api.Fault{Err: api.ErrMany, At: at}) {
		t.Errorf("%v, not at %d", f, at)
	}
}

func of(kind api.NodeKind, text string, kids ...api.Node) api.Node {
	return api.Node{Kind: kind, Text: text, Kids: kids}
}

func file(kids ...api.Node) api.Node { return of(api.NodeFile, "p", kids...) }

func typed(s string) api.Node { return of(api.NodeType, s) }

// chained are structs each of which has the next one, the last one of a type.
func chained(many int, last api.Node) []api.Node {
	var kids []api.Node
	for i := range many {
		in := typed("s" + strconv.Itoa(i+1))
		if i == many-1 {
			in = last
		}
		kids = append(kids, of(api.NodeStruct, "s"+strconv.Itoa(i), of(api.NodeField, "a", in)))
	}
	return kids
}

// TestLongChains: R1, as many structs as there may be.
func TestLongChains(t *testing.T) {
	t.Parallel()
	const many = 10922
	start := time.Now()
	for _, c := range []struct {
		last string
		want api.Errno
		at   int
	}{{"int", api.OK, 0}, {"s0", api.ErrLoop, 1}, {"s10921", api.ErrLoop, many}, {"s10000", api.ErrLoop, 10001}, {"none", api.ErrName, many + 1}} {
		kids := chained(many, typed(c.last))
		for i := range kids {
			kids[i].At = i + 1
		}
		kids[many-1].Kids[0].Kids[0].At = many + 1
		if f := check.File(file(kids...)); f != (api.Fault{Err: c.want, At: c.at}) {
			t.Errorf("%s: %v", c.last, f)
		}
	}
	if took := time.Since(start); took > time.Minute {
		t.Errorf("it took %v", took)
	}
}
