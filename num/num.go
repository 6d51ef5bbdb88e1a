// Package num is layer 1: numbers, whole and with a point. See shared/doc/01-num.md.
package num

import (
	"math"

	"gristmill/api"
)

// oneNaN is the only NaN that is told: Go leaves the bits of its own open.
const oneNaN = 0x7ff8000000000001

type number interface{ int64 | float64 }

func Int(op string, a, b int64) (int64, api.Errno) {
	f, ok := intOperators()[op]
	if !ok {
		return 0, api.ErrArg
	}
	return unlessDivided(f, a, b)
}

func Float(op string, a, b uint64) (uint64, api.Errno) {
	f, ok := floatOperators()[op]
	if !ok {
		return 0, api.ErrArg
	}
	x, y := math.Float64frombits(a), math.Float64frombits(b)
	return Plain(math.Float64bits(f(x, y))), api.OK
}

func IntIs(op string, a, b int64) (bool, api.Errno) {
	return compare(op, a, b)
}

func FloatIs(op string, a, b uint64) (bool, api.Errno) {
	return compare(op, math.Float64frombits(a), math.Float64frombits(b))
}

func FromInt(n int64) uint64 {
	return math.Float64bits(float64(n))
}

func Plain(bits uint64) uint64 {
	if math.IsNaN(math.Float64frombits(bits)) {
		return oneNaN
	}
	return bits
}

func intOperators() map[string]func(a, b int64) int64 {
	return map[string]func(a, b int64) int64{
		"+": func(a, b int64) int64 { return a + b },
		"-": func(a, b int64) int64 { return a - b },
		"*": func(a, b int64) int64 { return a * b },
		"/": func(a, b int64) int64 { return a / divisor(b) },
		"%": func(a, b int64) int64 { return a % divisor(b) },
	}
}

func floatOperators() map[string]func(a, b float64) float64 {
	return map[string]func(a, b float64) float64{
		"+": func(a, b float64) float64 { return a + b },
		"-": func(a, b float64) float64 { return a - b },
		"*": func(a, b float64) float64 { return a * b },
		"/": func(a, b float64) float64 { return a / b },
	}
}

func comparisons[T number]() map[string]func(a, b T) bool {
	return map[string]func(a, b T) bool{
		"==": func(a, b T) bool { return a == b },
		"!=": func(a, b T) bool { return a != b },
		"<":  func(a, b T) bool { return a < b },
		"<=": func(a, b T) bool { return a <= b },
		">":  func(a, b T) bool { return a > b },
		">=": func(a, b T) bool { return a >= b },
	}
}

func compare[T number](op string, a, b T) (bool, api.Errno) {
	f, ok := comparisons[T]()[op]
	if !ok {
		return false, api.ErrArg
	}
	return f(a, b), api.OK
}

// divisor panics from within an operator, which has no result to tell a fault by.
func divisor(b int64) int64 {
	if b == 0 {
		panic(api.ErrDivide)
	}
	return b
}

// unlessDivided recovers: a divisor that is 0 is all that an operator can panic with.
func unlessDivided(f func(a, b int64) int64, a, b int64) (n int64, e api.Errno) {
	defer func() {
		if recover() != nil {
			n, e = 0, api.ErrDivide
		}
	}()
	return f(a, b), api.OK
}
