package eval_test

import (
	"testing"

	"gristmill/api"
)

// costing is what statements tell, and how many steps that costs.
type costing struct {
	results, statements, want string
	steps                     int
	args                      []api.Value
}

func vs(v ...api.Value) []api.Value { return v }

func costAll(t *testing.T, rows []costing) {
	t.Helper()
	for _, c := range rows {
		costs(t, c.results, c.statements, c.want, c.steps, c.args...)
	}
}

// P9.1, P9.2; of two, a call costs its body's 7.
func TestStepsOfStatements(t *testing.T) {
	costAll(t, []costing{
		{"", "", "", 0, nil},
		{"", "return", "", 1, nil},
		{"int", "return 1", "1", 2, nil},
		{"int, bool", "return 1, true", "1 true", 3, nil},
		{"int, int", "return two(3)", "4 5", 10, nil},
		{"int", "return one(3)", "3", 5, nil},
		{"", "{ }", "", 1, nil},
		{"", "{ { }; { } }", "", 3, nil},
		{"int", "{ x := a; return x }", "4", 5, vs(anInt(4))},
		{"", "nothing()", "", 2, nil},
		{"", "one(3)", "", 5, nil},
		{"", "two(3)", "", 10, nil},
		{"", `panic("x")`, "ErrPanic x", 3, nil},
		{"", `fail("x")`, "ErrPanic x", 6, nil},
	})
}

func TestStepsOfVariables(t *testing.T) {
	costAll(t, []costing{
		{"int", "var x int; return x", "0", 4, nil},
		{"bool", "var x bool; return x", "false", 4, nil},
		{"string", "var x string; return x", `""`, 4, nil},
		{"float64", "var x float64; return x", "0x0000000000000000", 4, nil},
		{"[]int", "var x []int; return x", "[]", 4, nil},
		{"[][]tree", "var x [][]tree; return x", "[]", 4, nil},
		{"none", "var x none; return x", "none{}", 4, nil},
		{"pair", "var x pair; return x", "pair{0 []}", 6, nil},
		{"all", "var x all; return x", `all{0 false "" 0x0000000000000000 [] pair{0 []}}`, 12, nil},
		{"int", "var x int = 5; return x", "5", 4, nil},
		{"pair", "var x pair = a; return x", "pair{1 [2]}", 4, vs(aStruct("pair", anInt(1), ints(2)))},
		{"int", "x := 7; return x", "7", 4, nil},
		{"[]int", "x := a; return x", "[1 2 3]", 4, vs(ints(1, 2, 3))},
		{"int", "x, y := two(1); return x * 10 + y", "23", 16, nil},
	})
}

func TestStepsOfAssignments(t *testing.T) {
	five := vs(anInt(5))
	costAll(t, []costing{
		{"int", "a = 1; return a", "1", 4, five},
		{"int, int", "x := 1; a, x = x, a; return a, x", "1 5", 2 + 3 + 3, five},
		{"[]int", "x := []int{1, 2}; x[1] = 9; return x", "[1 9]", 13, nil},
		{"[]int", "a[one(1)] = 9; return a", "[1 9]", 9, vs(ints(1, 2))},
		{"pair", "x := pair{}; x.a = 3; return x", "pair{3 []}", 10, nil},
		{"pair", "x := pair{}; x.b = []int{4, 5}; return x", "pair{0 [4 5]}", 17, nil},
		{"pair", "x := pair{b: []int{4}}; x.b[0] = 6; return x", "pair{0 [6]}", 16, nil},
		{"all", "a.p.b = a.l; return a", `all{1 true "s" 0x0000000000000000 [7 8] pair{2 [7 8]}}`, 8, vs(aStruct("all", anInt(1), aBool(1), aString("s"), aFloat(0), ints(7, 8), aStruct("pair", anInt(2), ints())))},
		{"int, []int", "x := []int{1, 2}; a, x[0] = x[1], a; return a, x", "2 [5 2]", 17, five},
		{"[]int, int", "x := []int{0, 0}; x[0], a = two(a); return x, a", "[6 0] 7", 22, five},
		{"int, int", "x := 0; x, a = two(a); return a, x", "7 6", 15, five},
		{"[]tree", "x := []tree{tree{}}; x[0].kids = x; return x", "[tree{0 [tree{0 []}]}]", 10 + 7 + 2, nil},
		{"[]tree", "x := []tree{tree{}}; x[0] = tree{of: 2}; return x", "[tree{2 []}]", 1 + 1 + 4 + 4 + 1 + 1 + 5 + 3 + 2, nil},
	})
}

// An index that is not there ends it, when its place is set: what is put there was paid then, and ahead of it.
func TestStepsToAPlaceThatIsNotThere(t *testing.T) {
	args := vs(anInt(5), ints(1, 2), ints(3))
	costAll(t, []costing{
		{"", "b[2] = a", "ErrIndex", 4, args},
		{"", "b[a] = a", "ErrIndex", 4, args},
		{"", "b[-a] = a", "ErrIndex", 5, args},
		{"", "b[0], c[1] = a, a", "ErrIndex", 7, args},
		{"", "b[2], c[0] = a, a", "ErrIndex", 6, args},
		{"", "b[2], a = a, a", "ErrIndex", 5, args},
		{"", "a, b[2] = a, a", "ErrIndex", 5, args},
		{"", "b[2] = c[1]", "ErrIndex", 5, args},
		{"", "b[c[1]] = c[0]", "ErrIndex", 4, args},
		{"", "x := [][]int{b}; x[0][a], a = a, a", "ErrIndex", 1 + 2 + 4 + 6, args},
		{"", "x := [][]int{b}; x[a][one(0)] = a", "ErrIndex", 1 + 2 + 4 + 1 + 1 + 4 + 1 + 1, args},
		{"", "x := [][]int{b}; x[0] = c; x[0][1] = a", "ErrIndex", 1 + 2 + 4 + 5 + 5, args},
		{"", "x := pair{b: b}; x.b[2] = a", "ErrIndex", 1 + 2 + 5 + 4, args},
		{"", "x := []pair{}; x[0].a = a", "ErrIndex", 1 + 2 + 4, args},
	})
}

func TestStepsOfBranches(t *testing.T) {
	costAll(t, []costing{
		{"", "if true { }", "", 3, nil},
		{"", "if false { }", "", 2, nil},
		{"", "if true { } else { one(1) }", "", 3, nil},
		{"", "if false { one(1) } else { }", "", 3, nil},
		{"", "if false { } else if true { }", "", 5, nil},
		{"", "if false { } else if false { }", "", 4, nil},
		{"", "if false { } else if false { } else { }", "", 5, nil},
		{"int", "if a == 1 { return 1 } else { return 2 }", "1", 1 + 3 + 1 + 2, vs(anInt(1))},
		{"int", "if a == 1 { return 1 } else { return 2 }", "2", 1 + 3 + 1 + 2, vs(anInt(2))},
		{"int", "if a { a = !a }; if a { return 1 }; return 2", "2", 1 + 1 + 1 + 3 + 2 + 2, vs(aBool(1))},
	})
}

func TestStepsOfFors(t *testing.T) {
	two := vs(anInt(2))
	costAll(t, []costing{
		{"", "for false { }", "", 2, nil},
		{"int", "for a > 0 { a = a - 1 }; return a", "0", 24, two},
		{"int", "for a > 0 { a = a - 1; continue }; return a", "0", 26, two},
		{"int", "L: for a > 0 { a = a - 1; continue L }; return a", "0", 26, two},
		{"int", "for a > 0 { a = a - 1; if a == 1 { continue } }; return a", "0", 24 + 4 + 6, two},
		{"", "for { break }", "", 3, nil},
		{"", "L: for { break L }", "", 3, nil},
		{"", "L: for { for { break L } }", "", 5, nil},
		{"", "L: for { for { for { break L } } }", "", 7, nil},
		{"", "L: for { M: for { for { break M } }; break L }", "", 8, nil},
		{"int", "L: for a > 0 { a = a - 1; for { continue L } }; return a", "0", 30, two},
		{"int", "L: for a > 0 { a = a - 1; for { for { continue L } } }; return a", "0", 34, two},
		{"int", "for a > 0 { a = a - 1; for { break } }; return a", "0", 30, two},
		{"int", "for { return 3 }", "3", 4, nil},
		{"int", "for { for { return a } }", "2", 6, two},
		{"int", "for { a = 2 / (a - 1) - 1 }", "ErrDivide", 1 + 10 + 8, two},
		{"", "for a > 0 { a = a - 1 }", "", 1 + 3, vs(anInt(0))},
		{"int", "for a > 0 { x := a; a = x - 1; { x := 5; a = a - x } }; return a", "-4", 1 + 3 + 1 + 2 + 4 + 1 + 2 + 4 + 1 + 3 + 2, two},
	})
}

func TestStepsOfSwitches(t *testing.T) {
	one, four := vs(anInt(1)), vs(anInt(4))
	costAll(t, []costing{
		{"", "switch 1 { }", "", 2, nil},
		{"", "switch one(1) { }", "", 5, nil},
		{"int", "switch a { case 1: return 5 }; return 6", "5", 6, one},
		{"int", "switch a { case 1: return 5 }; return 6", "6", 5, four},
		{"int", "switch a { default: return 1\n case 4: return 2 }", "2", 6, four},
		{"int", "switch a { default: return 1\n case 4: return 2 }", "1", 6, one},
		{"int", "switch a { case 0, 1, 2: return 5\n case 4: return 6 }; return 7", "5", 7, one},
		{"int", "switch a { case 0, 1, 2: return 5\n case 4: return 6 }; return 7", "6", 9, four},
		{"int", "switch a { case 0, 2: return 5\n default: a = 3\n case 4, 8: return a }; return a", "4", 8, four},
		{"int", "switch a { case 0, 2: return 5\n default: a = 3\n case 4, 8: return a }; return a", "3", 1 + 1 + 4 + 1 + 2 + 2, one},
		{"", "switch a { default: }", "", 3, one},
		{"int", "switch a { case 1: break }; return 7", "7", 7, one},
		{"int", "switch a { case 1: { break } }; return 7", "7", 8, one},
		{"int", "switch a { case 1: a = 2\n case 2: a = 3 }; return a", "2", 8, one},
		{"int", "for { switch a { case 1: a = 2; break\n default: return a } }", "2", 17, one},
		{"int", "for { switch a { case 1: a = 2; continue\n default: return a } }", "2", 17, one},
		{"int", "L: for { switch a { case 1: break L } }; return a", "1", 1 + 1 + 3 + 1 + 1 + 2, one},
		{"int", "switch a { case 1: for { break }; a = 2 }; return a", "2", 3 + 1 + 3 + 2 + 2, one},
		{"int", "switch a { case a: return 1\n case fail(\"x\"): return 2 }; return 3", "1", 6, one},
		{"int", "switch a { case 3, fail(\"x\"), 4: return 1 }; return 3", "ErrPanic x", 3 + 5, one},
	})
}
