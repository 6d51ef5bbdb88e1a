package eval_test

import (
	"testing"

	"gristmill/api"
)

// telling is what statements tell.
type telling struct {
	results, statements, want string
	args                      []api.Value
}

func tellAll(t *testing.T, rows []telling) {
	t.Helper()
	for _, x := range rows {
		tells(t, x.results, x.statements, x.want, x.args...)
	}
}

// Values stand for themselves: what one name has is not changed by another one.
func TestValuesOfTheirOwn(t *testing.T) {
	tellAll(t, []telling{
		{"[]int, []int", "x := []int{1, 2}; y := x; y[0] = 9; return x, y", "[1 2] [9 2]", nil},
		{"[]int, []int", "x := []int{1, 2}; y := x; x[0] = 9; return x, y", "[9 2] [1 2]", nil},
		{"[]int, []int", "x := []int{1, 2}; x[0] = 3; y := x; x[0] = 9; return x, y", "[9 2] [3 2]", nil},
		{"[]int, []int", "x := []int{1, 2}; var y []int = x; y[1] = 9; x[0] = 8; return x, y", "[8 2] [1 9]", nil},
		{"[]int, []int", "x := []int{1, 2}; var y []int; y = x; y[1] = 9; x[0] = 8; y[0] = 7; return x, y", "[8 2] [7 9]", nil},
		{"[]int, []int, []int", "x := []int{1}; y := x; z := y; y[0] = 2; z[0] = 3; return x, y, z", "[1] [2] [3]", nil},
		{"pair, pair", "x := pair{a: 1, b: []int{2}}; y := x; y.a = 3; y.b[0] = 4; return x, y", "pair{1 [2]} pair{3 [4]}", nil},
		{"pair, pair", "x := pair{a: 1, b: []int{2}}; y := x; x.b[0] = 4; y.b = []int{}; return x, y", "pair{1 [4]} pair{1 []}", nil},
		{"pair, []int", "x := pair{b: []int{2}}; y := x.b; x.b[0] = 4; y[0] = y[0] + 5; return x, y", "pair{0 [4]} [7]", nil},
		{"pair, []int", "y := []int{1}; x := pair{b: y}; y[0] = 2; x.b[0] = 3; y[0] = y[0] + 5; return x, y", "pair{0 [3]} [7]", nil},
		{"pair, []int", "y := []int{1}; x := pair{}; x.b = y; y[0] = 2; x.b[0] = x.b[0] + 2; return x, y", "pair{0 [3]} [2]", nil},
		{"[][]int, []int", "y := []int{1}; x := [][]int{y, y}; x[0][0] = 2; y[0] = 3; return x, y", "[[2] [1]] [3]", nil},
		{"[][]int", "y := []int{1}; x := [][]int{y, y}; x[0][0] = 2; z := x; x[1][0] = 3; z[0][0] = 4; return append(z, x[0], x[1])", "[[4] [1] [2] [3]]", nil},
		{"[][]int, [][]int", "x := [][]int{[]int{1}, []int{2}}; y := x; y[0][0] = 5; x[1][0] = 6; return x, y", "[[1] [6]] [[5] [2]]", nil},
		{"[][]int, [][]int", "x := [][]int{[]int{1}, []int{2}}; x[0][0] = 3; y := x; x[0][0] = 5; y[0][0] = 6; x[0][0] = x[0][0] + 1; return x, y", "[[6] [2]] [[6] [2]]", nil},
		{"[][]int", "x := [][]int{[]int{1}, []int{2}}; x[1] = x[0]; x[1][0] = 7; x[0][0] = x[0][0] + 2; return x", "[[3] [7]]", nil},
		{"tree", "x := tree{of: 1}; x.kids = []tree{x, x}; x.kids[0].of = 2; x.kids[1].kids = x.kids; x.of = 3; x.kids[1].kids[0].of = 9; return x", "tree{3 [tree{2 []} tree{1 [tree{9 []} tree{1 []}]}]}", nil},
		{"all, all", "x := all{}; y := x; x.p.a = 1; y.l = []int{1}; x.l = y.l; y.l[0] = 2; y.p.b = y.l; y.p.b[0] = 3; return x, y", `all{0 false "" 0x0000000000000000 [1] pair{1 []}} all{0 false "" 0x0000000000000000 [2] pair{0 [3]}}`, nil},
		{"[]pair", "x := []pair{pair{}, pair{}}; p := x[0]; p.a = 1; x[1] = p; p.a = 2; x[1].a = x[1].a + 5; return append(x, p)", "[pair{0 []} pair{6 []} pair{2 []}]", nil},
		{"pair, pair", "var x pair; var y pair; x.a = 1; y.b = []int{1}; var z pair; z.a = 7; return x, y", "pair{1 []} pair{0 [1]}", nil},
		{"pair, pair", "x := pair{a: 1}; x.a = 2; y := pair{b: []int{1}}; y.b[0] = 2; return x, pair{}", "pair{2 []} pair{0 []}", nil},
	})
}

func TestPartsAreOfTheirOwn(t *testing.T) {
	tellAll(t, []telling{
		{"[]int, []int", "x := []int{1, 2}; y := append(x, 3); x[0] = 9; y[1] = 8; return x, y", "[9 2] [1 8 3]", nil},
		{"[]int, []int, []int", "x := []int{1, 2}; y := append(x, 3); z := append(x, 4); y[2] = y[2] + 1; return x, y, z", "[1 2] [1 2 4] [1 2 4]", nil},
		{"[]int, []int", "x := append([]int{1}, 2); x = append(x, 3); y := append(x, 4); x = append(x, 5); return x, y", "[1 2 3 5] [1 2 3 4]", nil},
		{"[]int, []int", "x := []int{1, 2, 3}; y := x[:2]; x[0] = 9; y[1] = 8; return x, y", "[9 2 3] [1 8]", nil},
		{"[]int, []int", "x := []int{1, 2, 3}; y := append(x[:2], 7); x[0] = 9; return x, y", "[9 2 3] [1 2 7]", nil},
		{"[]int, []int", "x := []int{1, 2, 3}; y := x[:3]; y[0] = 4; return x, y", "[1 2 3] [4 2 3]", nil},
		{"[][]int, [][]int", "x := [][]int{[]int{1}}; y := append(x, []int{2}); y[0][0] = 5; x[0][0] = 6; y[1][0] = 7; return x, y", "[[6]] [[5] [7]]", nil},
		{"[][]int, []int", "z := []int{2}; y := append([][]int{}, z, z); y[0][0] = 5; z[0] = 6; return y, z", "[[5] [2]] [6]", nil},
		{"[][]int, [][]int", "x := [][]int{[]int{1}, []int{2}}; y := x[:1]; y[0][0] = 5; x[0][0] = x[0][0] + 6; return x, y", "[[7] [2]] [[5]]", nil},
		{"[]int, [][]int", "x := [][]int{[]int{1}, []int{2}}; y := x[0]; x[0][0] = 5; y[0] = y[0] + 1; return y, x", "[2] [[5] [2]]", nil},
		{"[][]int", "x := [][]int{[]int{1}}; x[0][0] = 2; x = append(x, x[0]); x[1][0] = 3; x[0][0] = 4; return x", "[[4] [3]]", nil},
		{"pair, pair", "x := []pair{pair{b: []int{1}}}; y := x[0]; y.b[0] = 2; return x[0], y", "pair{0 [1]} pair{0 [2]}", nil},
	})
}

// changing are functions that set what they are given.
const changing = `
func change(x []int, n int) []int { x[0] = n; return x }
func deeply(x [][]int, n int) [][]int { x[0][0] = n; return x }
func within(p pair, n int) pair { p.b[0] = n; p.a = n; return p }
func both(x []int, y []int) ([]int, []int) { x[0] = 7; return x, y }
func twice(x []int) ([]int, []int) { return x, x }
func inner(x []int) []int { y := change(x, 5); x[0] = x[0] + 1; return append(y, x[0]) }
`

func TestArgumentsAndResultsAreOfTheirOwn(t *testing.T) {
	for _, x := range []telling{
		{"[]int, []int", "x := []int{1}; y := change(x, 2); return x, y", "[1] [2]", nil},
		{"[]int, []int", "x := []int{1}; y := change(x, 2); x[0] = 3; y[0] = y[0] + 4; return x, y", "[3] [6]", nil},
		{"[]int", "x := []int{1}; x = change(x, 2); x[0] = x[0] + 1; return x", "[3]", nil},
		{"[][]int, [][]int", "x := [][]int{[]int{1}}; y := deeply(x, 2); return x, y", "[[1]] [[2]]", nil},
		{"[][]int, []int", "z := []int{1}; y := deeply([][]int{z}, 2); return y, z", "[[2]] [1]", nil},
		{"pair, pair", "x := pair{b: []int{1}}; y := within(x, 2); return x, y", "pair{0 [1]} pair{2 [2]}", nil},
		{"[]int, []int, []int", "x := []int{1}; y, z := both(x, x); return x, y, z", "[1] [7] [1]", nil},
		{"[]int, []int, []int", "x := []int{1}; y, z := twice(x); y[0] = 2; z[0] = 3; return x, y, z", "[1] [2] [3]", nil},
		{"[]int, []int", "x := []int{1}; y := x; x, y = twice(x); x[0] = 2; return x, y", "[2] [1]", nil},
		{"[]int, int", "x := []int{1}; return x, change(x, 2)[0] + x[0]", "[1] 3", nil},
		{"[]int, []int", "x := []int{1}; return inner(x), x", "[5 2] [1]", nil},
		{"[]int, []int", "x := []int{1}; y, z := both(change(x, 3), change(x, 4)); return y, z", "[7] [4]", nil},
		{"[]int, []int", "b := change(a, 9); a[1] = 8; return a, b", "[1 8] [9 2]", vs(ints(1, 2))},
	} {
		ends(t, read(t, source(x.results, x.statements, x.args)+changing), x.want, x.args...)
	}
	v := ints(1, 2)
	n := read(t, "package p; func f(a []int, b [][]int, c []int) ([]int, [][]int, []int) { a[0] = 3; b[0][1] = 4; b[1][0] = 5; return a, b, c }")
	ends(t, n, "[3 2] [[1 4] [5 2] [1 2]] [1 2]", v, aSlice(v, v, v), v)
	if !alike(v, ints(1, 2)) {
		t.Error("an argument was changed")
	}
}

// Places are set behind all expressions, from left to right: what is put into one is not what another one has become.
func TestPlacesThatAreSetTogether(t *testing.T) {
	tellAll(t, []telling{
		{"[]int, []int", "x := []int{1, 2}; y := []int{3}; x[0], y = 9, x; return x, y", "[9 2] [1 2]", nil},
		{"[]int, []int", "x := []int{1, 2}; y := []int{3}; y, x[0] = x, 9; return x, y", "[9 2] [1 2]", nil},
		{"[]int, []int", "x := []int{1, 2}; y := []int{3}; x[0] = 5; x[0], y = 9, x; return x, y", "[9 2] [5 2]", nil},
		{"[]int, []int", "x := []int{1, 2}; y := []int{3}; x[0] = 5; y[0] = 6; x, y = y, x; return x, y", "[6] [5 2]", nil},
		{"[]int, []int", "x := []int{1}; y := []int{3}; x[0] = 5; x[0], y[0] = y[0], x[0]; return x, y", "[3] [5]", nil},
		{"[][]int, []int", "x := [][]int{[]int{1}, []int{2}}; y := []int{3}; x[0][0] = 4; x[0][0], y = 5, x[0]; return x, y", "[[5] [2]] [4]", nil},
		{"[][]int, []int", "x := [][]int{[]int{1}, []int{2}}; y := []int{3}; x[0][0] = 4; y[0] = 5; x[0], y = y, x[0]; x[0][0] = x[0][0] + 1; y[0] = y[0] + 10; return x, y", "[[6] [2]] [14]", nil},
		{"tree, tree", "x := tree{}; y := tree{of: 1}; x.kids, y.kids = []tree{y}, []tree{x}; return x, y", "tree{0 [tree{1 []}]} tree{1 [tree{0 []}]}", nil},
		{"int, int, int", "x := 1; y := 2; z := 3; x, y, z = y, z, x; return x, y, z", "2 3 1", nil},
		{"[]int, int", "x := []int{5, 6}; n := 0; n, x[n] = 1, 7; return x, n", "[7 6] 1", nil},
		{"[]int, int", "x := []int{5, 6}; n := 0; x[n], n = 7, 1; return x, n", "[7 6] 1", nil},
		{"[][]int, []int", "x := [][]int{[]int{0, 1}}; y := []int{0, 8}; x[y[0]][y[0]+1], y[0] = 9, 1; return x, y", "[[0 9]] [1 8]", nil},
		{"[]int, []int", "x := []int{1, 2}; y := x; x, y[x[0]] = []int{3}, 4; return x, y", "[3] [1 4]", nil},
		{"int, int", "x, y := two(1); x, y = two(x * y); return x, y", "7 8", nil},
	})
}

// In which order it goes: indexes, expressions, places; each from the left.
func TestWhatFaultsFirst(t *testing.T) {
	args := vs(ints(1), ints(2), anInt(0))
	tellAll(t, []telling{
		{"", `a[fail("1")], b[fail("2")] = fail("3"), fail("4")`, "ErrPanic 1", args},
		{"", `a[0], b[fail("2")] = fail("3"), fail("4")`, "ErrPanic 2", args},
		{"", `a[0], b[0] = fail("3"), fail("4")`, "ErrPanic 3", args},
		{"", `a[0], b[0] = 1, fail("4")`, "ErrPanic 4", args},
		{"", `a[5], b[6] = 1, fail("4")`, "ErrPanic 4", args},
		{"", `a[5], b[6] = two(fail("5"))`, "ErrPanic 5", args},
		{"", `a[5], b[fail("2")] = 1, 2`, "ErrPanic 2", args},
		{"", `a[5], b[1 / c] = 1, 2`, "ErrDivide", args},
		{"", `a[1 / c], b[fail("2")] = 1, 2`, "ErrDivide", args},
		{"", `a[5] = 1 / c`, "ErrDivide", args},
		{"", `a[a[5]], c = fail("3"), 1`, "ErrIndex", args},
		{"", `x := [][]int{a}; x[fail("1")][fail("2")] = fail("3")`, "ErrPanic 1", args},
		{"", `x := [][]int{a}; x[7][fail("2")] = fail("3")`, "ErrPanic 2", args},
		{"", `x := [][]int{a}; x[7][7] = fail("3")`, "ErrPanic 3", args},
		{"", `x := []pair{}; x[7].b[fail("2")] = 1`, "ErrPanic 2", args},
	})
	tellAll(t, []telling{
		{"int", `return fail("1") + fail("2")`, "ErrPanic 1", args},
		{"int, int", `return fail("1"), fail("2")`, "ErrPanic 1", args},
		{"int, int", `return c, fail("2")`, "ErrPanic 2", args},
		{"int, int", `return two(fail("2"))`, "ErrPanic 2", args},
		{"int", `return a[5] + fail("2")`, "ErrIndex", args},
		{"int", `return a[fail("2")]`, "ErrPanic 2", args},
		{"int", `return a[:5][fail("2")]`, "ErrIndex", args},
		{"[]int", `return append(a[:5], fail("2"))`, "ErrIndex", args},
		{"[]int", `return append(a, fail("1"), fail("2"))`, "ErrPanic 1", args},
		{"[]int", `return []int{1, fail("1"), fail("2")}`, "ErrPanic 1", args},
		{"pair", `return pair{b: []int{fail("1")}, a: fail("2")}`, "ErrPanic 1", args},
		{"pair", `return pair{a: fail("2"), b: []int{fail("1")}}`, "ErrPanic 2", args},
		{"int", `return len(a[:fail("1")]) / c`, "ErrPanic 1", args},
		{"int", `panic("1" + word(fail("2")))`, "ErrPanic 2", args},
		{"float64", `return float64(fail("1")) / float64(fail("2"))`, "ErrPanic 1", args},
		{"int", `return -fail("1")`, "ErrPanic 1", args},
		{"bool", `return !(fail("1") == fail("2"))`, "ErrPanic 1", args},
		{"int", `x := fail("1"); return x`, "ErrPanic 1", args},
		{"int", `var x int = fail("1"); return x`, "ErrPanic 1", args},
		{"int", `if fail("1") == 0 { return fail("2") }; return 3`, "ErrPanic 1", args},
		{"int", `for fail("1") == 0 { return fail("2") }; return 3`, "ErrPanic 1", args},
		{"int", `switch fail("1") { case fail("2"): return 3 }; return 4`, "ErrPanic 1", args},
		{"int", `switch c { case 1, fail("2"), 0: return 3 }; return 4`, "ErrPanic 2", args},
		{"int", `switch c { case 0, fail("2"): return 3; case fail("3"): return 4 }; return 5`, "3", args},
		{"int", `return one(one(fail("1")) + fail("2"))`, "ErrPanic 1", args},
	})
}
