package num_test

import (
	"math"
	"math/big"
	"strings"
)

const (
	most  = math.MaxInt64
	least = math.MinInt64

	minus  = 1 << 63
	one    = 0x3ff0000000000000
	two    = 0x4000000000000000
	half   = 0x3fe0000000000000
	inf    = 0x7ff0000000000000
	nan    = 0x7ff8000000000001
	top    = 0x7fefffffffffffff
	normal = 0x0010000000000000
	tiny   = 0x0000000000000001
)

// noOperators are none of any of the calls.
func noOperators() []string {
	return []string{
		"", " ", "+ ", " +", "++", "--", "**", "//", "%%", "=", "===", "!", "<<", ">>", "<>", "=<", "=>", "!==",
		"&", "|", "^", "&&", "||", "+=", "add", "\x00", "+\x00", "\xff", "\u2212", "\u00d7", "\uff0b",
		strings.Repeat("+", 1000),
	}
}

func arithmetic() []string { return []string{"+", "-", "*", "/"} }

func comparing() []string { return []string{"==", "!=", "<", "<=", ">", ">="} }

func wholes() []int64 {
	out := []int64{0, 1, 2, 3, 7, 10, 63, 64, 1 << 31, 1<<31 - 1, 1 << 32, 1<<53 - 1, 1 << 53, 1<<53 + 1, 1 << 62, most - 1, most}
	for _, n := range out {
		out = append(out, -n)
	}
	return append(out, least)
}

func nans() []uint64 {
	return []uint64{nan, 0x7ff8000000000000, 0x7ff0000000000001, 0x7fffffffffffffff, 0xfff8000000000000, 0xfff8000000000001, 0xfff0000000000001, 0xffffffffffffffff}
}

// finites are floats that are no NaN and no infinity, zeros of both signs ahead.
func finites() []uint64 {
	out := []uint64{
		0, tiny, 2, 3, normal - 1, normal, normal + 1, half, half + 1, one - 1, one, one + 1, two, 0x4008000000000000,
		0x3fb999999999999a, 0x3fc999999999999a, 0x3fd5555555555555, 0x1ff0000000000000, 0x2000000000000001,
		0x433fffffffffffff, 0x4340000000000000, 0x4340000000000001, 0x5ff0000000000000, 0x6000000000000001, top - 1, top,
	}
	for _, b := range out {
		out = append(out, minus|b)
	}
	return out
}

func numbers() []uint64 { return append(finites(), inf, minus|inf) }

func floats() []uint64 { return append(numbers(), nans()...) }

func isNaN(bits uint64) bool { return bits&inf == inf && bits&(1<<52-1) != 0 }

func isZero(bits uint64) bool { return bits<<1 == 0 }

// exact is what the bits of a finite float say, without any float operator.
func exact(bits uint64) *big.Rat {
	mantissa, power := int64(bits&(1<<52-1)), int(bits>>52&0x7ff)
	if power == 0 {
		power = 1
	} else {
		mantissa |= 1 << 52
	}
	n := new(big.Rat).SetInt64(mantissa)
	scale := new(big.Rat).SetInt(new(big.Int).Lsh(big.NewInt(1), uint(abs(power-1075))))
	if power < 1075 {
		scale.Inv(scale)
	}
	n.Mul(n, scale)
	if bits&minus != 0 {
		n.Neg(n)
	}
	return n
}

func abs(n int) int { return max(n, -n) }

// next is the float next to a number that is not 0.
func next(n *big.Rat) uint64 {
	f, _ := n.Float64()
	return math.Float64bits(f)
}
