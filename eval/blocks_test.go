package eval_test

import (
	"testing"
)

// P9.2: a variable is there to its block's end, each time anew, and hides one of its name further out.
func TestVariablesInBlocks(t *testing.T) {
	tellAll(t, []telling{
		{"int", "x := 1; { x := x + 1; x = x * 5 }; return x", "1", nil},
		{"int", "x := 1; { x = x + 1; x := 7; x = x + 8 }; return x", "2", nil},
		{"int", "x := 1; { x := 2; { x := 3; x = x + 4 }; x = x + 1; if x == 3 { return x } }; return -x", "3", nil},
		{"int", "x := 1; { var x string; x = \"a\" + x }; return x", "1", nil},
		{"int", "x := 1; { var x int; x = x + 5 }; { var x int = x; return x }", "1", nil},
		{"int", "n := 0; s := 0; for n < 3 { var x int; x = x + 1; n = n + 1; s = s + x }; return s", "3", nil},
		{"int", "n := 0; s := 0; for n < 3 { x := []int{}; n = n + 1; x = append(x, n); s = s + len(x) }; return s", "3", nil},
		{"int", "n := 0; s := 0; for n < 3 { var p pair; p.a = p.a + 1; n = n + 1; s = s + p.a }; return s", "3", nil},
		{"int", "n := 1; for { n := n + 1; if n == 2 { break } }; return n", "1", nil},
		{"int", "n := 1; if n == 1 { n := 2; n = n + 3 } else { n := 4; n = n + 5 }; return n", "1", nil},
		{"int", "n := 1; switch n { case 1: n := 2; n = n + 3 }; return n", "1", nil},
		{"int", "a = a + 1; { a := 5; a = a + 1 }; return a", "3", vs(anInt(2))},
		{"int, int", "a, b := two(1); { b, a := two(a); a = b + a }; return a, b", "2 3", nil},
		{"int, string", "x := 1; y := \"\"; for x < 4 { x = x + 1; { x := word(x); y = y + x; if len(y) > 4 { break } } }; return x, y", `3 "aaaaa"`, nil},
	})
}

// What a leap leaves is gone: what was hidden is there again.
func TestVariablesBehindLeaps(t *testing.T) {
	tellAll(t, []telling{
		{"int", "x := 1; for { x := 2; { x := 3; if x == 3 { break } }; x = x + 4 }; return x", "1", nil},
		{"int", "x := 1; n := 0; for n < 3 { n = n + 1; x := 2; { x := 3; if x == 3 { continue } }; x = x + 4 }; return x", "1", nil},
		{"int", "x := 1; n := 0; for n < 3 { n = n + x; x := 2; { x := 3; if x == 3 { continue } }; x = x + 4 }; return n", "3", nil},
		{"int", "x := 1; L: for { x := 2; for { x := 3; for x == 3 { x := 4; if x == 4 { break L } } }; x = x + 4 }; return x", "1", nil},
		{"int", "x := 1; n := 0; L: for n < 3 { n = n + x; x := 2; for { x := 3; for x == 3 { x := 4; if x == 4 { continue L } } }; x = x + 4 }; return x + n", "4", nil},
		{"int", "x := 1; switch x { case 1: x := 2; { x := 3; if x == 3 { break } }; x = x + 4 }; return x", "1", nil},
		{"int", "x := 1; for x == 1 { x := 5; switch x { case 5: x := 6; if x == 6 { break } }; return x }; return x", "5", nil},
		{"int", "x := 1; y := one(x); { x := 8; y = y + one(x) }; return x * 10 + y", "19", nil},
		{"int", "n := 7; m := row(3); return n + len(m)", "10", nil},
		{"int", "s := 7; n := row(4); return s + len(n)", "11", nil},
		{"string, int", "n := 3; s := word(2) + word(n); return s, n", `"aaaaa" 3`, nil},
	})
}

func TestLeaps(t *testing.T) {
	tellAll(t, []telling{
		{"int", "n := 0; for { n = n + 1; if n == 5 { break } }; return n", "5", nil},
		{"int", "n := 0; s := 0; for n < 5 { n = n + 1; if n == 3 { continue }; s = s + n }; return s", "12", nil},
		{"int", "s := 0; for s < 100 { s = s + 1; for { s = s + 10; break }; s = s + 1 }; return s", "108", nil},
		{"int", "i := 0; s := 0; L: for i < 4 { i = i + 1; k := 0; for k < 4 { k = k + 1; if k == i { continue L }; s = s + k }; s = s + 1000 }; return s", "10", nil},
		{"int", "i := 0; s := 0; L: for i < 4 { i = i + 1; k := 0; for k < 4 { k = k + 1; if k == 3 { continue }; if i == 3 { break L }; s = s + k } }; return s * 10 + i", "143", nil},
		{"int", "i := 0; L: for { i = i + 1; switch i { case 1: continue\n case 2: continue L\n case 3: break\n case 4: break L }; i = i + 100; if i > 300 { return -i } }; return i", "-305", nil},
		{"int", "i := 0; for { switch i { case 0: i = 1; break }; break }; return i", "1", nil},
		{"int", "i := 3; A: for { B: for { C: for { switch i { case 3: i = 2; continue A\n case 2: i = 1; continue B\n case 1: i = 0; continue C }; break A }; return 1 }; return 2 }; return i", "0", nil},
		{"int", "i := 3; A: for { B: for { C: for { switch i { case 3: i = 2; break C\n default: break B }; return 9 }; continue B }; break A }; return i", "2", nil},
		{"int", "for { for { switch 1 { default: for { return 5 } } } }", "5", nil},
		{"int", "n := one(2); for n > 0 { n = n - one(1) }; return n", "0", nil},
		{"int", "i := 0; for isSo(i < 3, \"\") { i = i + 1; x := row(i); if len(x) == 2 { continue } }; return i", "3", nil},
	})
}

// A leap ends in its own function, whatever is under way in those around it.
func TestLeapsInCalls(t *testing.T) {
	const some = `
func find(s []int, n int) int { i := 0; L: for { for i < len(s) { if s[i] == n { break L }; i = i + 1 }; return -1 }; return i }
func skip(n int) int { i := 0; L: for i < 9 { i = i + 1; for { if i < n { continue L }; return i } }; return 0 }
func even(n int) bool { if n == 0 { return true }; return odd(n - 1) }
func odd(n int) bool { for n > 0 { switch n { default: return even(n - 1) } }; return false }
func fib(n int) int { if n < 2 { return n }; return fib(n - 1) + fib(n - 2) }
func sets(n int, s []int) { n = n + 1; s[0] = n; if n > 100 { return }; x := n; x = x + 1 }
func ack(m int, n int) int { if m == 0 { return n + 1 }; if n == 0 { return ack(m - 1, 1) }; return ack(m - 1, ack(m, n - 1)) }
func mix(n int) (int, []int) { if n == 0 { return 0, []int{} }; a, s := mix(n - 1); s = append(s, a); return a + n, s }
`
	for _, x := range []telling{
		{"int, int", "return find(a, 3), find(a, 9)", "2 -1", vs(ints(1, 2, 3))},
		{"int", "L: for { for { if find(a, skip(2)) == 1 { break L } } }; return skip(5)", "5", vs(ints(1, 2, 3))},
		{"int", "n := 0; for n < 5 { n = n + 1; if find(a, n) < 0 { continue }; n = n + find(a, 1) }; return n", "5", vs(ints(1, 2, 3))},
		{"bool, bool, bool", "return even(10), odd(10), odd(7)", "true false true", nil},
		{"int", "return fib(15)", "610", nil},
		{"int", "return ack(2, 3)", "9", nil},
		{"int, []int", "return mix(5)", "15 [0 1 3 6 10]", nil},
		{"[]int", "n, x := mix(4); x[0] = n; return x", "[10 1 3 6]", nil},
		{"int, []int, int", "n := 3; x := 7; s := []int{1}; sets(5, s); sets(n, s); n = n + x; sets(n + 100, s); return n, s, x", "10 [1] 7", nil},
		{"int, int", "n := 3; L: for { sets(n, a); for { n := 9; sets(n, a); break L } }; return n, a[0]", "3 1", vs(ints(1, 2, 3))},
		{"int", "switch even(4) { case odd(3): return fib(find(a, 3)) }; return 7", "1", vs(ints(1, 2, 3))},
	} {
		ends(t, read(t, source(x.results, x.statements, x.args)+some), x.want, x.args...)
	}
}
