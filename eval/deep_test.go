package eval_test

import (
	"math"
	"runtime/debug"
	"strconv"
	"strings"
	"testing"

	"gristmill/api"
	"gristmill/eval"
	"gristmill/value"
)

// far is so deep that calls within calls have no room in the stack that confine leaves.
const far = 1 << 17

// confine leaves little stack till what it answers is called.
func confine() func() {
	was := debug.SetMaxStack(1 << 23)
	return func() { debug.SetMaxStack(was) }
}

// deepTree is a tree within so many others; each has another one beside it.
func deepTree(many int) api.Value {
	v := aStruct("tree", anInt(7), aSlice())
	for range many {
		v = aStruct("tree", anInt(1), aSlice(v, aStruct("tree", anInt(2), aSlice())))
	}
	return v
}

// TestDeepValues: R1; calls within calls would go too deep.
func TestDeepValues(t *testing.T) {
	defer confine()()
	v := deepTree(far)
	n := read(t, given+`func f(a tree) (tree, int) { b := a; a.of = 3; a.kids[0].of = 4; c := []tree{}; n := 0
	for len(b.kids) > 0 && n < 1000 { n = n + 1; b = b.kids[0] }
	a.kids[1] = b; c = append(c, a); return c[0], n }`)
	o := eval.Run(n, "f", 1<<30, v)
	if o.Err != api.OK || len(o.Values) != 2 || o.Values[1].Num != 1000 {
		t.Fatal(o.Err, len(o.Values))
	}
	want := deepTree(far)
	want.Parts[0].Num, want.Parts[1].Parts[0].Parts[0].Num = 3, 4
	want.Parts[1].Parts[1] = deepTree(far - 1000)
	if !value.Same(o.Values[0], want) || !value.Same(v, deepTree(far)) {
		t.Error("not that value")
	}
	// Of a tree within others: two values of its own, and a row, and those of the one beside it.
	const values = 3 + 6*far
	const put = values - 3 + 3 + 6*(far-1000) // the tree that stood beside is another one
	const steps = 2 + 3 + 4 + 3 + 2 + 1 + 1001*9 + 1000*11 + 3 + (3 + 6*(far-1000)) + 4 + put + 5
	if o.Steps != steps {
		t.Errorf("%d steps, not %d", o.Steps, steps)
	}
	for _, fuel := range []int{steps - 1, steps / 2, 3} {
		if less := eval.Run(n, "f", fuel, v); less.Err != api.ErrFuel || less.Steps != fuel {
			t.Errorf("with fuel %d: %v, %d steps", fuel, less.Err, less.Steps)
		}
	}
}

// TestGrowingValues makes values that get deeper and deeper.
func TestGrowingValues(t *testing.T) {
	n := read(t, given+"func f(a int) tree { x := tree{}; for a > 0 { x = tree{of: a, kids: []tree{x}}; a = a - 1 }; return x }")
	want := aStruct("tree", anInt(0), aSlice())
	for i := range 3000 {
		want = aStruct("tree", anInt(int64(3000-i)), aSlice(want))
	}
	o := eval.Run(n, "f", 1<<30, anInt(3000))
	if o.Err != api.OK || !value.Same(o.Values[0], want) {
		t.Error(o.Err, o.Steps)
	}
	if o := eval.Run(n, "f", 1<<22, anInt(1<<40)); o.Err != api.ErrFuel || o.Steps != 1<<22 {
		t.Error(o.Err, o.Steps)
	}
	doubles := read(t, given+"func f() { x := []tree{}; for { x = []tree{tree{kids: x}, tree{kids: x}} } }")
	if o := eval.Run(doubles, "f", 1<<24); o.Err != api.ErrFuel || o.Steps != 1<<24 {
		t.Error(o.Err, o.Steps)
	}
	fills := read(t, given+"func f() { x := []tree{}; for { x = append(x, tree{kids: x}) } }")
	if o := eval.Run(fills, "f", 1<<24); o.Err != api.ErrFuel || o.Steps != 1<<24 {
		t.Error(o.Err, o.Steps)
	}
	copies := read(t, given+"func f() { x := row(1024); for { y := [][]int{}; z := y; z = append(z, x); y = z; y[0] = z[0][:1024]; y[0][1023] = z[0][0] } }")
	if o := eval.Run(copies, "f", 1<<20); o.Err != api.ErrFuel || o.Steps != 1<<20 {
		t.Error(o.Err, o.Steps)
	}
}

func TestLongStrings(t *testing.T) {
	grows := read(t, "package p; func f() { s := \"ab\"; for { s = s + s } }")
	if o := eval.Run(grows, "f", 1<<24); o.Err != api.ErrFuel || o.Steps != 1<<24 {
		t.Error(o.Err, o.Steps)
	}
	n := read(t, "package p; func f(a string) (string, int, bool) { b := a + \"b\"; return b, len(b), a < b }")
	long := strings.Repeat("a\xff", far)
	o := eval.Run(n, "f", 1<<30, aString(long))
	if o.Err != api.OK || o.Values[0].Text != long+"b" || o.Values[1].Num != 2*far+1 || o.Values[2].Num != 1 || o.Steps != 1+3+2*far+1+1+1+2+3 {
		t.Error(o.Err, o.Steps)
	}
	if o := eval.Run(n, "f", 2*far+4, aString(long)); o.Err != api.ErrFuel || o.Steps != 2*far+4 {
		t.Error(o.Err, o.Steps)
	}
	n = read(t, "package p; func f(a string) { panic(a) }")
	if o := eval.Run(n, "f", 3, aString(long)); o.Err != api.ErrPanic || o.Text != long || o.Steps != 3 {
		t.Error(o.Err, o.Steps)
	}
}

// nested are statements, or an expression, so many times within what @ stands in.
func nested(many int, around, in string) string {
	for range many {
		in = strings.Replace(around, "@", in, 1)
	}
	return in
}

// TestDeepCalls has 2000 calls, each from as deep in its body as may be.
func TestDeepCalls(t *testing.T) {
	for _, x := range []struct{ around, in, behind string }{
		{"for n > 0 { @ }", "return f(n - 1)", "; return n"},
		{"{ @ }", "return f(n - 1)", ""},
		{"switch n { default: @ }", "return f(n - 1)", "; return n"},
		{"if n == n { @ }", "return f(n - 1)", "; return n"},
		{"if n != n { return n } else { @ }", "return f(n - 1)", "; return n"},
		{"return @", "(-(-f(n - 1)))", ""},
		{"return @", nested(45, "-(@)", "f(n - 1)"), ""},
		{"return @", nested(40, "one(@)", "f(n - 1)"), ""},
		{"return @", nested(40, "(1 + @)", "f(n - 1)"), ""},
		{"return @", nested(20, "[]int{@}[0]", "f(n - 1)"), ""},
		{"return @", nested(17, "pair{a: @}.a", "f(n - 1)"), ""},
	} {
		many := 1
		if !strings.Contains(x.around, "return @") {
			for many = 60; !isRight(deepSource(many, x.around, x.in, x.behind)); {
				many--
			}
			if many < 15 {
				t.Fatal(x.around, many)
			}
		}
		n := read(t, deepSource(many, x.around, x.in, x.behind))
		for _, deep := range []int64{1999, 2000, math.MaxInt64} {
			o := eval.Run(n, "f", 1<<30, anInt(deep))
			if deep == 1999 && o.Err != api.OK || deep > 1999 && o.Err != api.ErrStack {
				t.Errorf("%s: %d deep: %v", x.around, deep, o.Err)
			}
		}
		all := eval.Run(n, "f", 1<<30, anInt(2000)).Steps
		for _, fuel := range []int{all - 1, all / 2, 50} {
			if o := eval.Run(n, "f", fuel, anInt(2000)); o.Err != api.ErrFuel || o.Steps != fuel {
				t.Errorf("%s: fuel %d: %v", x.around, fuel, o.Err)
			}
		}
	}
}

func deepSource(many int, around, in, behind string) string {
	return given + "func f(n int) int { if n == 0 { return n }; " + nested(many, around, in) + behind + " }"
}

// TestGreatPrograms: R1; as many nodes as may be.
func TestGreatPrograms(t *testing.T) {
	var b strings.Builder
	b.WriteString("package p; func f(n int) int { ")
	const many = 2200
	for i := range many {
		b.WriteString("v" + strconv.Itoa(i) + " := n; ")
	}
	b.WriteString("for n < 5000 { ")
	for i := range many {
		b.WriteString("n = n + v" + strconv.Itoa(i) + "; ")
	}
	b.WriteString("}; return n }")
	ends(t, read(t, b.String()), strconv.Itoa(1+3*many), anInt(1))

	b.Reset()
	b.WriteString("package p; func g2000() { }; ")
	for i := range 2000 {
		b.WriteString("func g" + strconv.Itoa(i) + "() { g" + strconv.Itoa(i+1) + "() }; ")
	}
	takes(t, read(t, b.String()+"func f() { g2() }"), "", 2*1999)
	takes(t, read(t, b.String()+"func f() { g1() }"), "ErrStack", 2*2000)

	fields := ""
	for i := range 10 {
		fields += "; type t" + strconv.Itoa(i+1) + " struct { a t" + strconv.Itoa(i) + "; b t" + strconv.Itoa(i) + "; c int }"
	}
	great := read(t, "package p; type t0 struct { }"+fields+"; func f() (int, t10) { var x t10; x.a = t9{}; y := x; y.b = x.a; return y.b.a.c, y }")
	values := 1
	for range 10 {
		values = 2 + 2*values
	}
	o := eval.Run(great, "f", 1<<30)
	of9 := (values - 2) / 2
	if o.Err != api.OK || bookMany(o.Values[1]) != values || o.Steps != 1+values+2*of9+2+2+(3+of9)+1+5-1+1 {
		t.Error(o.Err, o.Steps, values)
	}
}

// TestDeepTrees: R1; those that are too deep are no programs.
func TestDeepTrees(t *testing.T) {
	defer confine()()
	for _, kind := range []api.NodeKind{api.NodeFile, api.NodeBlock, api.NodeUnary, api.NodeSlice, 0, 99} {
		n := api.Node{Kind: kind}
		for range far {
			n = api.Node{Kind: kind, Kids: []api.Node{n}}
		}
		in := api.Node{Kind: api.NodeFunc, Text: "f", Kids: []api.Node{{Kind: api.NodeParams}, {Kind: api.NodeResults}, n}}
		for _, file := range []api.Node{n, {Kind: api.NodeFile, Text: "p", Kids: []api.Node{n}}, {Kind: api.NodeFile, Text: "p", Kids: []api.Node{in}}} {
			if o := eval.Run(file, "f", 100); o.Err != api.ErrShape || o.Steps != 0 {
				t.Errorf("%d: %v", kind, o.Err)
			}
		}
	}
}

// TestDeepestProgram is as deep as may be; one node deeper is none.
func TestDeepestProgram(t *testing.T) {
	deep := func(many int) api.Node {
		n := of(api.NodeReturn, "", of(api.NodeName, "n"))
		for range many {
			n = of(api.NodeBlock, "", n)
		}
		one := of(api.NodeField, "n", typed("int"))
		return of(api.NodeFile, "p", of(api.NodeFunc, "f", of(api.NodeParams, "", one), of(api.NodeResults, "", typed("int")), of(api.NodeBlock, "", n)))
	}
	const most = api.MaxNest - 5 // of the blocks: file, function, its block, the return, the name lie around and within
	takes(t, deep(most), "7", most+2, anInt(7))
	if o := eval.Run(deep(most+1), "f", 100, anInt(7)); o.Err != api.ErrShape {
		t.Error(o.Err)
	}
}
