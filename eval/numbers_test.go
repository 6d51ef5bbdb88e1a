package eval_test

import (
	"math"
	"strconv"
	"testing"

	"gristmill/api"
	"gristmill/value"
)

func floats() []float64 {
	return []float64{0, math.Copysign(0, -1), 1, -1, 1.5, 1e308, -1e308, 5e-324, -5e-324, math.Inf(1), math.Inf(-1), math.NaN(), 0.1, 1 << 53, 3}
}

func wholes() []int64 {
	return []int64{0, 1, -1, 2, 3, -7, 7, 1 << 31, -1 << 31, 1 << 32, 1<<62 + 1, math.MaxInt64, math.MaxInt64 - 1, math.MinInt64, math.MinInt64 + 1}
}

func ofFloat(f float64) api.Value {
	if f != f {
		return aFloat(0x7ff8000000000001)
	}
	return aFloat(math.Float64bits(f))
}

func ofBool(is bool) api.Value {
	if is {
		return aBool(1)
	}
	return aBool(0)
}

// comparing is a function of all comparisons of two.
func comparing(of string) string {
	return "package p; func f(a " + of + ", b " + of + ") (bool, bool, bool, bool, bool, bool) { return a == b, a != b, a < b, a <= b, a > b, a >= b }"
}

func compared[T int64 | float64 | string](a, b T) string {
	s := ""
	for i, is := range []bool{a == b, a != b, a < b, a <= b, a > b, a >= b} {
		if i > 0 {
			s += " "
		}
		s += strconv.FormatBool(is)
	}
	return s
}

// P9.3.
func TestWholeNumbers(t *testing.T) {
	joined := read(t, "package p; func f(a int, b int) (int, int, int, int) { return a + b, a - b, a * b, -a }")
	compares := read(t, comparing("int"))
	divided := read(t, "package p; func f(a int, b int) (int, int) { return a / b, a % b }")
	rest := read(t, "package p; func f(a int, b int) int { return a % b }")
	equal := read(t, "package p; func f(a int, b int) bool { switch a { case b: return true }; return false }")
	for _, a := range wholes() {
		ends(t, read(t, "package p; func f(a int) float64 { return float64(a) }"), value.Text(ofFloat(float64(a))), anInt(a))
		for _, b := range wholes() {
			row := spell(api.Outcome{Values: vs(anInt(a+b), anInt(a-b), anInt(a*b), anInt(-a))})
			ends(t, joined, row, anInt(a), anInt(b))
			ends(t, compares, compared(a, b), anInt(a), anInt(b))
			ends(t, equal, strconv.FormatBool(a == b), anInt(a), anInt(b))
			if b == 0 {
				ends(t, divided, "ErrDivide", anInt(a), anInt(b))
				ends(t, rest, "ErrDivide", anInt(a), anInt(b))
			} else {
				ends(t, divided, spell(api.Outcome{Values: vs(anInt(a/b), anInt(a%b))}), anInt(a), anInt(b))
			}
		}
	}
}

func TestFloats(t *testing.T) {
	joined := read(t, "package p; func f(a float64, b float64) (float64, float64, float64, float64, float64) { return a + b, a - b, a * b, a / b, -a }")
	compares := read(t, comparing("float64"))
	equal := read(t, "package p; func f(a float64, b float64) bool { switch a { case b: return true }; return false }")
	for _, a := range floats() {
		for _, b := range floats() {
			minus := math.Float64frombits(math.Float64bits(a) ^ 1<<63)
			row := vs(ofFloat(a+b), ofFloat(a-b), ofFloat(a*b), ofFloat(a/b), ofFloat(minus))
			ends(t, joined, spell(api.Outcome{Values: row}), ofFloat(a), ofFloat(b))
			ends(t, compares, compared(a, b), ofFloat(a), ofFloat(b))
			ends(t, equal, strconv.FormatBool(a == b), ofFloat(a), ofFloat(b))
		}
	}
	tellAll(t, []telling{
		{"float64", "return -a", "0x8000000000000000", vs(aFloat(0))},
		{"float64", "return -a", "0x7ff8000000000001", vs(ofFloat(math.NaN()))},
		{"float64", "return -(-a)", "0x7ff8000000000001", vs(ofFloat(math.NaN()))},
		{"float64", "x := 0.0; return 1.5 / -x", "0xfff0000000000000", nil},
		{"float64", "x := 0.0; x = x / x; return x - x", "0x7ff8000000000001", nil},
		{"bool", "x := 0.0; x = x / x; return x == x || x < x || x >= x", "false", nil},
		{"bool", "x := 0.0; return -x == x && 1.0 / -x != 1.0 / x", "true", nil},
		{"float64", "return -0.1", "0xbfb999999999999a", nil},
	})
}

func TestStrings(t *testing.T) {
	joined := read(t, "package p; func f(a string, b string) (string, int, int) { return a + b, len(a), len(b) }")
	compares := read(t, comparing("string"))
	equal := read(t, "package p; func f(a string, b string) bool { switch a { case b: return true }; return false }")
	all := []string{"", "a", "b", "ab", "aa", "A", "\x00", "\x00\x00", "\xff", "a\xff", "a\x7f", "é", "\xc3", "abcdefghijklmnopqrstuvwxyz", "abcdefghijklmnopqrstuvwxyy"}
	for _, a := range all {
		for _, b := range all {
			ends(t, joined, spell(api.Outcome{Values: vs(aString(a+b), anInt(int64(len(a))), anInt(int64(len(b))))}), aString(a), aString(b))
			ends(t, compares, compared(a, b), aString(a), aString(b))
			ends(t, equal, strconv.FormatBool(a == b), aString(a), aString(b))
		}
	}
}

func TestTruths(t *testing.T) {
	n := read(t, "package p; func f(a bool, b bool) (bool, bool, bool, bool, bool) { return a && b, a || b, !a, a == b, a != b }")
	equal := read(t, "package p; func f(a bool, b bool) bool { switch a { case b: return true }; return false }")
	for _, a := range []bool{false, true} {
		for _, b := range []bool{false, true} {
			row := vs(ofBool(a && b), ofBool(a || b), ofBool(!a), ofBool(a == b), ofBool(a != b))
			ends(t, n, spell(api.Outcome{Values: row}), ofBool(a), ofBool(b))
			ends(t, equal, strconv.FormatBool(a == b), ofBool(a), ofBool(b))
		}
	}
	tellAll(t, []telling{
		{"bool", `return false && isSo(false, "x") || true || isSo(false, "y")`, "true", nil},
		{"bool", `return true && isSo(false, "x")`, "ErrPanic x", nil},
		{"bool", `return !(false || isSo(false, ""))`, "true", nil},
		{"bool", "return a != 0 && 6 / a == 3", "false", vs(anInt(0))},
		{"bool", "return a != 0 && 6 / a == 3", "true", vs(anInt(2))},
		{"bool", "return a == 0 || 6 / a == 3", "true", vs(anInt(0))},
		{"bool", "return len(a) > 0 && a[0] == 1", "false", vs(ints())},
		{"bool", "return len(a) > 0 && a[0] == 1", "true", vs(ints(1))},
	})
}

// Literals say what num reads.
func TestLiterals(t *testing.T) {
	tellAll(t, []telling{
		{"int, int, int", "return 0, 9223372036854775807, -9223372036854775807", "0 9223372036854775807 -9223372036854775807", nil},
		{"float64, float64, float64", "return 0.1, 1.0, 123456789012345678901234567890.5", "0x3fb999999999999a 0x3ff0000000000000 0x45f8ee90ff6c373e", nil},
		{"float64, float64", "return -0.1, float64(7)", "0xbfb999999999999a 0x401c000000000000", nil},
		{"float64", "return float64(9223372036854775807)", "0x43e0000000000000", nil},
		{"string, string", `return "", "a\"\n\x00"`, `"" "a\"\n\x00"`, nil},
		{"bool, bool", "return true, !true", "true false", nil},
		{"int, int", `return len(""), len("a\n")`, "0 2", nil},
	})
}
