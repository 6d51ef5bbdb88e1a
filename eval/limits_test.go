package eval_test

import (
	"strconv"
	"strings"
	"testing"

	"gristmill/api"
	"gristmill/eval"
)

func many(n int) []int64 { return make([]int64, n) }

// commas are so many of one text.
func commas(many int, s string) string {
	return strings.TrimSuffix(strings.Repeat(s+", ", many), ", ")
}

// hasElements asks for one slice of whole numbers, so many.
func hasElements(t *testing.T, o api.Outcome, want int) {
	t.Helper()
	if o.Err != api.OK || len(o.Values) != 1 || len(o.Values[0].Parts) != want {
		t.Errorf("%v, %d values, not one of %d elements", o.Err, len(o.Values), want)
	}
}

// P9.3: 1024 elements, and no more, behind the steps.
func TestElements(t *testing.T) {
	const most = 1024
	appended := read(t, "package p; func f(a []int) []int { return append(a, 1) }")
	three := read(t, "package p; func f(a []int) []int { return append(a, 1, 2, 3) }")
	for _, x := range []struct {
		file        api.Node
		have, steps int
		err         api.Errno
	}{
		{appended, most - 1, 5, api.OK}, {appended, most, 5, api.ErrFull}, {appended, most + 1, 5, api.ErrFull}, {appended, 5000, 5, api.ErrFull},
		{three, most - 3, 9, api.OK}, {three, most - 2, 9, api.ErrFull}, {three, most, 9, api.ErrFull},
	} {
		v := ints(many(x.have)...)
		o := eval.Run(x.file, "f", 100, v)
		if o.Err != x.err || o.Steps != x.steps {
			t.Errorf("%d elements: %v, %d steps", x.have, o.Err, o.Steps)
		}
		for fuel := range x.steps {
			if o := eval.Run(x.file, "f", fuel, v); o.Err != api.ErrFuel || o.Steps != fuel {
				t.Errorf("%d elements, fuel %d: %v", x.have, fuel, o.Err)
			}
		}
	}
	for _, n := range []int{0, 1, most - 1, most, most + 1, 2 * most} {
		file := read(t, "package p; func f() []int { return []int{"+commas(n, "7")+"} }")
		steps := 2 + n + 1 + n
		o := eval.Run(file, "f", steps)
		if n <= most {
			hasElements(t, o, n)
		} else if o.Err != api.ErrFull || o.Steps != steps {
			t.Errorf("%d elements: %v, %d steps", n, o.Err, o.Steps)
		}
		if o := eval.Run(file, "f", steps-1); o.Err != api.ErrFuel || o.Steps != steps-1 {
			t.Errorf("%d elements, too little fuel: %v", n, o.Err)
		}
		file = read(t, "package p; func f(a []int) []int { return append(a, 7, "+commas(n, "7")+") }")
		if n == 0 {
			continue
		}
		o = eval.Run(file, "f", 1<<20, ints())
		if n < most {
			hasElements(t, o, n+1)
		} else if o.Err != api.ErrFull || o.Steps != 3+n+1+n+1 {
			t.Errorf("%d appended: %v, %d steps", n+1, o.Err, o.Steps)
		}
	}
	ends(t, read(t, given+"func f() int { return len(row(1024)) }"), "1024")
	ends(t, read(t, given+"func f() int { return len(row(1025)) }"), "ErrFull")
	ends(t, read(t, given+"func f() int { return len(append(row(1024)[:1000], 1)) }"), "1001")
	ends(t, read(t, given+"func f() int { x := row(1024); x[1023] = 5; y := x[:1024]; return len(y) + y[1023] }"), "1029")
}

// What an argument has may be more: it is no list, nor appended to.
func TestGreatArguments(t *testing.T) {
	t.Parallel()
	v := ints(many(5000)...)
	v.Parts[4000].Num = 7
	hasElements(t, eval.Run(read(t, "package p; func f(a []int) []int { a[4999] = 1; b := a; return b[:4500] }"), "f", 100, v), 4500)
	ends(t, read(t, "package p; func f(a []int) (int, int) { a[4999] = a[4000] + 1; b := a[:5000]; return b[4999] + len(b), a[4000] }"), "5008 7", v)
	ends(t, read(t, "package p; func f(a []int) [][]int { return [][]int{a, a}[:0] }"), "[]", v)
	file := read(t, "package p; func f(a []int) int { b := [][]int{a}; b = append(b, a); b[0] = a; return len(b) }")
	takes(t, file, "2", 1+2+1+5001+1+3+5001+1+1+1+5001+3, v)
}

// P9.2, P9.3: indexes at, below and beyond the edges.
func TestIndexes(t *testing.T) {
	t.Parallel()
	at := read(t, "package p; func f(a []int, n int) int { return a[n] }")
	to := read(t, "package p; func f(a []int, n int) []int { return a[:n] }")
	set := read(t, "package p; func f(a []int, n int) []int { a[n] = 9; return a }")
	deep := read(t, "package p; type t struct { s [][]int }; func f(a []int, n int) []int { x := []t{t{s: [][]int{a, a}}}; x[0].s[1][n] = 9; return x[0].s[1] }")
	for many := range 5 {
		v := ints([]int64{5, 6, 7, 8}[:many]...)
		for _, n := range []int64{-1 << 63, -1 << 32, -2, -1, 0, 1, 2, 3, 4, 5, 1 << 31, 1 << 32, 1<<32 + 1, 1<<63 - 1} {
			fault := "ErrIndex"
			if n < 0 || n >= int64(many) {
				ends(t, at, fault, v, anInt(n))
				ends(t, set, fault, v, anInt(n))
				ends(t, deep, fault, v, anInt(n))
			} else {
				ends(t, at, strconv.FormatInt(5+n, 10), v, anInt(n))
				w := ints([]int64{5, 6, 7, 8}[:many]...)
				w.Parts[n].Num = 9
				ends(t, set, spell(api.Outcome{Values: vs(w)}), v, anInt(n))
				ends(t, deep, spell(api.Outcome{Values: vs(w)}), v, anInt(n))
			}
			if n < 0 || n > int64(many) {
				ends(t, to, fault, v, anInt(n))
			} else {
				ends(t, to, spell(api.Outcome{Values: vs(aSlice(v.Parts[:n]...))}), v, anInt(n))
			}
		}
	}
}

// P9.3: 2000 calls in one another, the first one counted, and no more.
func TestCalls(t *testing.T) {
	t.Parallel()
	down := "package p; func f(n int) int { if n < 2 { return 1 }; return 1 + f(n - 1) }"
	turns := "package p; func f(n int) int { if n < 2 { return 1 }; return 1 + g(n - 1) }; func g(n int) int { for n > 1 { switch n { default: return 1 + f(n - 1) } }; return 1 }"
	args := "package p; func f(n int) int { if n < 2 { return 1 }; x := g(g(g(n))); return g(f(x - 1)) + 1 }; func g(n int) int { return n }"
	for _, s := range []string{down, turns} {
		file := read(t, s)
		for _, n := range []int64{1, 2, 1999, 2000} {
			ends(t, file, strconv.FormatInt(n, 10), anInt(n))
		}
		for _, n := range []int64{2001, 2002, 1 << 40} {
			ends(t, file, "ErrStack", anInt(n))
		}
	}
	file := read(t, args)
	ends(t, file, "2000", anInt(2000))
	ends(t, file, "ErrStack", anInt(2001))
	ends(t, read(t, "package p; func f() { f() }"), "ErrStack")
	ends(t, read(t, "package p; func f() { for { f() } }"), "ErrStack")
}

// The arguments come ahead of the call that may not be; what is known beforehand is no call of this kind.
func TestStepsToTooManyCalls(t *testing.T) {
	t.Parallel()
	const head = "package p; func f(n int) int { if n > 1 { return f(n - 1) }; "
	ahead := 1999*(1+3+1+1+1+3) + 1 + 3 // of 2000 calls, till the last one's second statement
	for _, x := range []struct {
		rest, want string
		steps      int
	}{
		{"return f(1)", "ErrStack", 3},
		{"return f(n / (n - 1))", "ErrDivide", 1 + 1 + 1 + 1 + 3},
		{"return len(\"ab\")", "2", 3},
		{"return len(append([]int{}, 1, 2))", "2", 1 + 1 + 1 + 2 + 2 + 2},
		{"panic(\"a\")", "ErrPanic a", 3},
		{"if float64(n) > 0.5 { return 4 }; return 5", "4", 1 + 4 + 1 + 2},
		{"g(); return 1", "ErrStack", 2},
	} {
		file := read(t, head+x.rest+" }; func g() { }")
		takes(t, file, x.want, ahead+x.steps, anInt(2000))
	}
}

// As many calls behind one another as there is fuel for.
func TestManyCalls(t *testing.T) {
	file := read(t, "package p; func g(n int) int { if n > 5 { return n }; return g(n + 1) }; func f(n int) int { s := 0; for n > 0 { s = s + g(0); n = n - 1 }; return s }")
	ends(t, file, "60000", anInt(10000))
}
