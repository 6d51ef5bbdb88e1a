package eval_test

import (
	"math"
	"reflect"
	"strings"
	"testing"

	"gristmill/api"
	"gristmill/eval"
	"gristmill/parse"
)

// isOnly asks for an error, and nothing beside it.
func isOnly(t *testing.T, e api.Errno, file api.Node, fn string, fuel int, args ...api.Value) {
	t.Helper()
	if o := eval.Run(file, fn, fuel, args...); !reflect.DeepEqual(o, api.Outcome{Err: e}) {
		t.Errorf("%s, fuel %d, %d arguments: %+v, not %v alone", fn, fuel, len(args), o, e)
	}
	if o := bookRun(file, fn, fuel, args...); o.Err != e {
		t.Errorf("%s: by the book %v", fn, o.Err)
	}
}

var fuels = []int{math.MinInt, -1, 0, 1, 100, math.MaxInt}

// P9.1.
func TestErrShapeIsAheadOfAll(t *testing.T) {
	var files []api.Node
	for _, s := range []string{
		"package main; func f(n int) { }", "package p; func f(n int) { x := 1 }", "package p; func f(n int) int { }", "package p; func f(n int) { }; func f() { }",
		"package p; func f(n int) { g() }", "package p; func f(n int) { return 1 }", "package p; func f(n int) { break }", "package p; func f(n int) { }; type t struct { t t }",
	} {
		n, f := parse.File(s)
		if f != (api.Fault{}) {
			t.Fatal(s, f)
		}
		files = append(files, n)
	}
	right := read(t, "package p; func f(n int) { }")
	files = append(files, api.Node{}, right.Kids[0], right.Kids[0].Kids[2], api.Node{Kind: api.NodeFile}, api.Node{Kind: 77, Text: "p"})
	for _, change := range []func(n *api.Node){
		func(n *api.Node) { n.Num = 1 }, func(n *api.Node) { n.At = -1 }, func(n *api.Node) { n.Text = "a b" },
		func(n *api.Node) { n.Kids = append(n.Kids, api.Node{}) }, func(n *api.Node) { n.Kind = 0 },
		func(n *api.Node) { n.Kids = []api.Node{n.Kids[0], n.Kids[0]} },
	} {
		n := right
		change(&n)
		files = append(files, n)
	}
	for _, n := range files {
		for _, fn := range []string{"f", "g", ""} {
			for _, fuel := range fuels {
				isOnly(t, api.ErrShape, n, fn, fuel)
				isOnly(t, api.ErrShape, n, fn, fuel, anInt(1))
				isOnly(t, api.ErrShape, n, fn, fuel, aBool(7), anInt(1))
			}
		}
	}
}

func TestErrNone(t *testing.T) {
	n := read(t, given+"func f(n int) { n = n }")
	for _, fn := range []string{"g", "", "F", "f ", "ff", "pair", "tree", "n", "len", "append", "panic", "float64", "int", "p", "init", "main", strings.Repeat("f", 1<<16)} {
		for _, fuel := range fuels {
			isOnly(t, api.ErrNone, n, fn, fuel)
			isOnly(t, api.ErrNone, n, fn, fuel, anInt(1))
			isOnly(t, api.ErrNone, n, fn, fuel, aBool(7), anInt(1))
		}
	}
	isOnly(t, api.ErrNone, read(t, "package p"), "f", 1)
}

func TestErrCount(t *testing.T) {
	n := read(t, "package p; func f(n int) { n = n }; func g() { }; func h(a int, b bool) { a = 1; b = true }")
	for _, fuel := range fuels {
		isOnly(t, api.ErrCount, n, "f", fuel)
		isOnly(t, api.ErrCount, n, "f", fuel, anInt(1), anInt(1))
		isOnly(t, api.ErrCount, n, "f", fuel, aBool(1), aBool(2))
		isOnly(t, api.ErrCount, n, "g", fuel, anInt(1))
		isOnly(t, api.ErrCount, n, "g", fuel, api.Value{})
		isOnly(t, api.ErrCount, n, "h", fuel)
		isOnly(t, api.ErrCount, n, "h", fuel, anInt(1))
		isOnly(t, api.ErrCount, n, "h", fuel, anInt(1), aBool(1), aBool(1))
	}
}

// ofType are values of a type, those that are none of it being all others.
func ofTypes() map[string][]api.Value {
	return map[string][]api.Value{
		"int":     {anInt(0), anInt(-1), anInt(math.MinInt64)},
		"bool":    {aBool(0), aBool(1)},
		"string":  {aString(""), aString("a\xff")},
		"float64": {aFloat(0), aFloat(1 << 63), aFloat(0x7ff8000000000001)},
		"[]int":   {ints(1), ints(1, 2)},
		"[]bool":  {aSlice(aBool(1))},
		"[][]int": {aSlice(ints(1), ints()), aSlice(aSlice())},
		"pair":    {aStruct("pair", anInt(1), ints(1, 2)), aStruct("pair", anInt(1), ints())},
		"tree":    {aStruct("tree", anInt(1), aSlice()), aStruct("tree", anInt(1), aSlice(aStruct("tree", anInt(1), aSlice())))},
		"[]tree":  {aSlice(aStruct("tree", anInt(1), aSlice()))},
		"none":    {aStruct("none")},
		"no such": {
			{}, {Kind: 9}, aBool(2), aBool(-1), aFloat(0x7ff8000000000000), aFloat(0xfff8000000000001), {Kind: api.TypeInt, Text: "a"}, {Kind: api.TypeString, Num: 1},
			aSlice(anInt(1), aBool(1)), aStruct("pair", anInt(1)), aStruct("pair", ints(), anInt(1)), aStruct("pair", anInt(1), ints(), ints()), aStruct("", anInt(1)), aStruct("none", anInt(1)), aStruct("lost"),
			{Kind: api.TypeSlice, Name: "int"}, {Kind: api.TypeBool, Num: 1, Bits: 1}, aSlice(api.Value{}), aSlice(aFloat(0x7ff0000000000001)), aStruct("tree", anInt(1), aSlice(anInt(1))),
		},
	}
}

func TestErrArg(t *testing.T) {
	for of := range ofTypes() {
		if of == "no such" {
			continue
		}
		n := read(t, given+"func f(a "+of+") "+of+" { return a }; func g(n int, a "+of+", b bool) "+of+" { return a }")
		for is, values := range ofTypes() {
			for _, v := range values {
				for _, fuel := range []int{math.MinInt, -1} {
					isOnly(t, api.ErrArg, n, "f", fuel, v)
				}
				if is != of {
					isOnly(t, api.ErrArg, n, "f", 0, v)
					isOnly(t, api.ErrArg, n, "f", 100, v)
					isOnly(t, api.ErrArg, n, "g", 100, anInt(1), v, aBool(1))
					continue
				}
				if o := eval.Run(n, "f", 2, v); o.Err != api.OK || len(o.Values) != 1 || !alike(o.Values[0], v) || o.Steps != 2 {
					t.Errorf("%s: %v", of, o)
				}
				if o := eval.Run(n, "g", 2, anInt(1), v, aBool(1)); o.Err != api.OK || len(o.Values) != 1 || !alike(o.Values[0], v) {
					t.Errorf("%s: %v", of, o)
				}
				isOnly(t, api.ErrArg, n, "g", 2, aBool(1), v, aBool(1))
				isOnly(t, api.ErrArg, n, "g", 2, anInt(1), v, anInt(1))
				isOnly(t, api.ErrArg, n, "g", -1, anInt(1), v, aBool(1))
			}
		}
	}
	empty := read(t, "package p; func f() { }")
	isOnly(t, api.ErrArg, empty, "f", -1)
	isOnly(t, api.ErrArg, empty, "f", math.MinInt)
	for _, fuel := range []int{0, 1, math.MaxInt} {
		if o := eval.Run(empty, "f", fuel); !reflect.DeepEqual(o, api.Outcome{}) {
			t.Errorf("%+v", o)
		}
	}
}

// TestFaultsTellNothingBeside but their steps, and of ErrPanic its text.
func TestFaultsTellNothingBeside(t *testing.T) {
	n := read(t, given+`func f(n int) (int, []int) { x := row(3)
	switch n { case 1: n = n / (n - 1)
	case 2: n = x[3]
	case 3: return fail("abc"), x
	case 4: panic("")
	case 5: for { }
	case 6: return f(n)
	case 7: for { x = append(x, 1) }
	}; return n, x }`)
	for i, want := range []api.Outcome{{}, {Err: api.ErrDivide}, {Err: api.ErrIndex}, {Err: api.ErrPanic, Text: "abc"}, {Err: api.ErrPanic}, {Err: api.ErrFuel}, {Err: api.ErrStack}, {Err: api.ErrFull}} {
		o := eval.Run(n, "f", 1<<20, anInt(int64(i)))
		want.Steps = o.Steps
		if i > 0 && (!reflect.DeepEqual(o, want) || o.Steps < 40) {
			t.Errorf("%d: %+v", i, o)
		}
	}
}

// The examples of the chapter.
func TestExamples(t *testing.T) {
	n := read(t, "package p; func f(n int) int { if n < 2 { return 1 }; return n * f(n - 1) }; func g() int { return []int{1}[1] }; func h() { for { } }; func k() float64 { x := 0.0; return 1.5 / x }")
	for _, x := range []struct {
		fn, want string
		fuel     int
		args     []api.Value
	}{
		{"f", "120", 1000, vs(anInt(5))}, {"g", "ErrIndex", 1000, nil}, {"h", "ErrFuel", 10, nil}, {"k", "0x7ff0000000000000", 100, nil},
	} {
		o := eval.Run(n, x.fn, x.fuel, x.args...)
		if spell(o) != x.want || o.Err == api.ErrFuel && o.Steps != x.fuel {
			t.Errorf("%s: %s", x.fn, spell(o))
		}
	}
}
