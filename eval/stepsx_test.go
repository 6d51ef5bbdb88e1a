package eval_test

import (
	"testing"
)

// P9.3.
func TestStepsOfExpressions(t *testing.T) {
	two := ints(1, 2)
	costAll(t, []costing{
		{"float64", "return 1.0", "0x3ff0000000000000", 2, nil},
		{"string", `return "a"`, `"a"`, 2, nil},
		{"bool", "return true", "true", 2, nil},
		{"int", "return -a", "-1", 3, vs(anInt(1))},
		{"bool", "return !a", "false", 3, vs(aBool(1))},
		{"int", "return a + a", "2", 4, vs(anInt(1))},
		{"bool", "return a < a", "false", 4, vs(anInt(1))},
		{"bool", "return a == a", "true", 4, vs(aString("abc"))},
		{"int", "return a[b]", "2", 4, vs(two, anInt(1))},
		{"[]int", "return a[:b]", "[1]", 4, vs(two, anInt(1))},
		{"int", "return a.a", "3", 3, vs(aStruct("pair", anInt(3), two))},
		{"int", "return a.b[1]", "2", 5, vs(aStruct("pair", anInt(3), two))},
		{"int", "return len(a)", "2", 3, vs(two)},
		{"int", `return len("ab")`, "2", 3, nil},
		{"float64", "return float64(a)", "0x3ff0000000000000", 3, vs(anInt(1))},
		{"int", "return a / b", "ErrDivide", 4, vs(anInt(1), anInt(0))},
		{"int", "return a % b", "ErrDivide", 4, vs(anInt(1), anInt(0))},
		{"int", "return a[b]", "ErrIndex", 4, vs(two, anInt(2))},
		{"[]int", "return a[:b]", "ErrIndex", 4, vs(two, anInt(3))},
		{"int", "return a / b + fail(\"x\")", "ErrDivide", 5, vs(anInt(1), anInt(0))},
		{"int", "return fail(\"x\") + a / b", "ErrPanic x", 1 + 1 + 2 + 3, vs(anInt(1), anInt(0))},
	})
}

// A + of strings costs its result's bytes.
func TestStepsOfStrings(t *testing.T) {
	costAll(t, []costing{
		{"string", `return a + "bc"`, `"abc"`, 7, vs(aString("a"))},
		{"string", `return a + ""`, `""`, 4, vs(aString(""))},
		{"string", `return a + "b" + "cd"`, `"abcd"`, 12, vs(aString("a"))},
		{"string", `return a + ("b" + a)`, `"aba"`, 6 + 2 + 3, vs(aString("a"))},
		{"string", `return a + "\xc3\xa9"`, `"\xff\xc3\xa9"`, 4 + 3, vs(aString("\xff"))},
	})
}

// What is made costs as many values as are in it.
func TestStepsOfWhatIsMade(t *testing.T) {
	two := vs(ints(1, 2))
	costAll(t, []costing{
		{"[]int", "return []int{}", "[]", 3, nil},
		{"[]int", "return []int{1, 2}", "[1 2]", 7, nil},
		{"[][]int", "return [][]int{[]int{1}, a}", "[[1] [1 2]]", 13, two},
		{"pair", "return pair{}", "pair{0 []}", 5, nil},
		{"pair", "return pair{b: a, a: 7}", "pair{7 [1 2]}", 9, two},
		{"pair", "return pair{b: a}", "pair{0 [1 2]}", 8, two},
		{"none", "return none{}", "none{}", 3, nil},
		{"tree", "return tree{kids: []tree{tree{of: 1}}}", "tree{0 [tree{1 []}]}", 18, nil},
		{"all", "return all{p: pair{a: 1}, i: 2}", `all{2 false "" 0x0000000000000000 [] pair{1 []}}`, 1 + 1 + 1 + 1 + 3 + 1 + 9, nil},
		{"[]int", "return append(a, 1, 2)", "[1 2 1 2]", 7, two},
		{"[]int", "return append(a, 1)", "[1 2 1]", 5, two},
		{"[][]int", "return append([][]int{}, a, a)", "[[1 2] [1 2]]", 12, two},
		{"[][]int", "return append([][]int{a}, []int{})", "[[1 2] []]", 1 + 1 + 2 + 4 + 2 + 1, two},
		{"[]tree", "return append([]tree{}, tree{of: 4})", "[tree{4 []}]", 1 + 1 + 2 + 5 + 3, nil},
	})
}

// What was set counts where its value is counted again.
func TestStepsOfWhatWasSet(t *testing.T) {
	costAll(t, []costing{
		{"[][]int", "x := [][]int{a}; x[0] = []int{}; y := append(x, x[0]); return y[:0]", "[]", 1 + 2 + 4 + 1 + 1 + 2 + 1 + 1 + 1 + 1 + 3 + 1 + 4, vs(ints(1, 2))},
		{"tree", "x := tree{}; x.kids = []tree{x, x}; x.kids = []tree{x}; x.kids[0].kids[1].kids = x.kids; return tree{kids: x.kids[0].kids[1].kids}", "tree{0 [tree{0 [tree{0 []} tree{0 []}]}]}",
			5 + (1 + 1 + 2 + 7 + 7) + (1 + 1 + 1 + 10 + 10) + (1 + 2 + 2 + 10) + (1 + 1 + 8 + 12), nil},
		{"[]pair", "x := []pair{pair{}}; x[0].b = a; y := []pair{x[0]}; y[0].b = []int{}; y = append(x, y[0]); return y", "[pair{0 [1 2]} pair{0 []}]",
			(1 + 1 + 4 + 4) + (1 + 1 + 1 + 3) + (1 + 1 + 3 + 6) + (1 + 1 + 2 + 1) + (1 + 1 + 1 + 3 + 3) + 2, vs(ints(1, 2))},
	})
}

// A && and a || cost what they ask.
func TestStepsOfTruths(t *testing.T) {
	no, yes := aBool(0), aBool(1)
	costAll(t, []costing{
		{"bool", "return a && b", "false", 3, vs(no, yes)},
		{"bool", "return a && b", "true", 4, vs(yes, yes)},
		{"bool", "return a && b", "false", 4, vs(yes, no)},
		{"bool", "return a || b", "true", 3, vs(yes, no)},
		{"bool", "return a || b", "true", 4, vs(no, yes)},
		{"bool", "return a || b", "false", 4, vs(no, no)},
		{"bool", `return a && isSo(b, "x")`, "false", 3, vs(no, no)},
		{"bool", `return a || isSo(b, "x")`, "true", 3, vs(yes, no)},
		{"bool", `return a || isSo(b, "x")`, "ErrPanic x", 1 + 2 + 3 + 2 + 4 + 3, vs(no, no)},
		{"bool", "return a || b || a", "true", 5, vs(no, yes)},
		{"bool", "return a && b || !a", "true", 6, vs(no, yes)},
	})
}
