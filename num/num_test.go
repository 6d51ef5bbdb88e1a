package num_test

import (
	"math/big"
	"testing"

	"gristmill/api"
	"gristmill/num"
)

func TestIntOrdinaryAndEdges(t *testing.T) {
	for _, c := range []struct {
		op         string
		a, b, want int64
	}{
		{"+", 2, 3, 5}, {"-", 2, 3, -1}, {"*", -4, 3, -12}, {"+", 0, 0, 0},
		{"/", 7, 2, 3}, {"/", -7, 2, -3}, {"/", 7, -2, -3}, {"/", -7, -2, 3}, {"/", 1, 2, 0}, {"/", -1, 2, 0}, {"/", 0, -5, 0},
		{"%", 7, 2, 1}, {"%", -7, 2, -1}, {"%", 7, -2, 1}, {"%", -7, -2, -1}, {"%", 1, 2, 1}, {"%", -1, 2, -1}, {"%", 6, 3, 0},
		{"+", most, 1, least}, {"+", most, most, -2}, {"+", least, least, 0}, {"-", least, 1, most}, {"-", 0, least, least},
		{"*", 1 << 32, 1 << 32, 0}, {"*", least, -1, least}, {"*", most, most, 1}, {"*", most, 2, -2},
		{"/", least, -1, least}, {"%", least, -1, 0}, {"/", least, 1, least}, {"/", least, least, 1}, {"/", most, least, 0},
		{"%", most, least, most}, {"%", least, most, -1}, {"/", least, most, -1}, {"/", least, 2, -1 << 62},
	} {
		if n, e := num.Int(c.op, c.a, c.b); n != c.want || e != api.OK {
			t.Errorf("Int(%s, %d, %d): %d, %d; wanted %d", c.op, c.a, c.b, n, e, c.want)
		}
	}
}

// wrapped takes a number modulo 2^64, by the book.
func wrapped(n *big.Int) int64 {
	room := new(big.Int).Lsh(big.NewInt(1), 64)
	n.Mod(n, room)
	if n.BitLen() > 63 {
		n.Sub(n, room)
	}
	return n.Int64()
}

func TestIntByTheBook(t *testing.T) {
	ops := map[string]func(z, a, b *big.Int) *big.Int{
		"+": (*big.Int).Add, "-": (*big.Int).Sub, "*": (*big.Int).Mul, "/": (*big.Int).Quo, "%": (*big.Int).Rem,
	}
	for op, f := range ops {
		for _, a := range wholes() {
			for _, b := range wholes() {
				if b == 0 && (op == "/" || op == "%") {
					continue
				}
				want := wrapped(f(new(big.Int), big.NewInt(a), big.NewInt(b)))
				if n, e := num.Int(op, a, b); n != want || e != api.OK {
					t.Errorf("Int(%s, %d, %d): %d, %d; wanted %d", op, a, b, n, e, want)
				}
			}
		}
	}
}

func TestIntByNought(t *testing.T) {
	for _, op := range []string{"/", "%"} {
		for _, a := range wholes() {
			if n, e := num.Int(op, a, 0); n != 0 || e != api.ErrDivide {
				t.Errorf("Int(%s, %d, 0): %d, %d", op, a, n, e)
			}
		}
	}
}

func TestIntWrongOperator(t *testing.T) {
	for _, op := range append(noOperators(), comparing()...) {
		for _, b := range []int64{0, 1, -1} {
			if n, e := num.Int(op, 7, b); n != 0 || e != api.ErrArg {
				t.Errorf("Int(%q, 7, %d): %d, %d", op, b, n, e)
			}
		}
	}
}

func TestFloatOrdinaryAndEdges(t *testing.T) {
	for _, c := range []struct {
		op         string
		a, b, want uint64
	}{
		{"+", one, one, two}, {"-", two, one, one}, {"*", half, two, one}, {"/", one, two, half},
		{"+", 0x3fb999999999999a, 0x3fc999999999999a, 0x3fd3333333333334}, {"/", one, 0x4008000000000000, 0x3fd5555555555555},
		{"+", 0, 0, 0}, {"+", 0, minus, 0}, {"+", minus, 0, 0}, {"+", minus, minus, minus},
		{"-", 0, 0, 0}, {"-", 0, minus, 0}, {"-", minus, 0, minus}, {"-", minus, minus, 0}, {"-", one, one, 0}, {"+", one, minus | one, 0},
		{"*", 0, 0, 0}, {"*", minus, 0, minus}, {"*", minus, minus, 0}, {"*", minus | one, 0, minus}, {"/", 0, one, 0}, {"/", 0, minus | one, minus}, {"/", minus, one, minus},
		{"/", one, 0, inf}, {"/", one, minus, minus | inf}, {"/", minus | one, 0, minus | inf}, {"/", minus | one, minus, inf}, {"/", tiny, 0, inf}, {"/", inf, 0, inf}, {"/", inf, minus, minus | inf},
		{"/", 0, 0, nan}, {"/", 0, minus, nan}, {"/", minus, 0, nan}, {"/", minus, minus, nan}, {"/", inf, inf, nan}, {"/", minus | inf, inf, nan},
		{"-", inf, inf, nan}, {"+", inf, minus | inf, nan}, {"+", minus | inf, inf, nan}, {"-", minus | inf, minus | inf, nan},
		{"*", 0, inf, nan}, {"*", inf, 0, nan}, {"*", minus, inf, nan}, {"*", minus | inf, 0, nan},
		{"+", inf, inf, inf}, {"-", inf, minus | inf, inf}, {"*", inf, minus | inf, minus | inf}, {"*", minus | inf, minus | inf, inf}, {"+", inf, top, inf}, {"/", top, inf, 0}, {"/", minus | one, inf, minus},
		{"*", top, two, inf}, {"*", minus | top, two, minus | inf}, {"+", top, top, inf}, {"-", minus | top, top, minus | inf}, {"/", top, half, inf}, {"/", one, tiny, inf},
		{"+", top, 0x7c80000000000000, top}, {"+", top, 0x7c90000000000000, inf},
		{"+", tiny, tiny, 2}, {"-", normal, tiny, normal - 1}, {"/", normal, two, 0x0008000000000000}, {"*", 3, half, 2}, {"*", tiny, half, 0}, {"*", minus | tiny, half, minus}, {"*", tiny, tiny, 0}, {"/", tiny, two, 0}, {"/", tiny, minus | two, minus},
	} {
		if n, e := num.Float(c.op, c.a, c.b); n != c.want || e != api.OK {
			t.Errorf("Float(%s, %x, %x): %x, %d; wanted %x", c.op, c.a, c.b, n, e, c.want)
		}
	}
}

func TestFloatNextToWhatIsExact(t *testing.T) {
	ops := map[string]func(z, a, b *big.Rat) *big.Rat{
		"+": (*big.Rat).Add, "-": (*big.Rat).Sub, "*": (*big.Rat).Mul, "/": (*big.Rat).Quo,
	}
	for op, f := range ops {
		for _, a := range finites() {
			for _, b := range finites() {
				if op == "/" && isZero(b) {
					continue
				}
				z := f(new(big.Rat), exact(a), exact(b))
				if z.Sign() == 0 {
					continue
				}
				if n, e := num.Float(op, a, b); n != next(z) || e != api.OK {
					t.Errorf("Float(%s, %x, %x): %x, %d; wanted %x", op, a, b, n, e, next(z))
				}
			}
		}
	}
}

func TestFloatNaNInIsTheOneNaN(t *testing.T) {
	for _, op := range arithmetic() {
		for _, a := range nans() {
			for _, b := range floats() {
				if n, e := num.Float(op, a, b); n != nan || e != api.OK {
					t.Errorf("Float(%s, %x, %x): %x, %d", op, a, b, n, e)
				}
				if n, e := num.Float(op, b, a); n != nan || e != api.OK {
					t.Errorf("Float(%s, %x, %x): %x, %d", op, b, a, n, e)
				}
			}
		}
	}
}

func TestFloatWrongOperator(t *testing.T) {
	for _, op := range append(append(noOperators(), comparing()...), "%") {
		for _, b := range []uint64{0, one, nan} {
			if n, e := num.Float(op, one, b); n != 0 || e != api.ErrArg {
				t.Errorf("Float(%q, 1, %x): %x, %d", op, b, n, e)
			}
		}
	}
}

// so tells by a sign (below, equal, above) what an operator of comparison says.
func so(op string, sign int) bool {
	switch op {
	case "==":
		return sign == 0
	case "!=":
		return sign != 0
	case "<":
		return sign < 0
	case "<=":
		return sign <= 0
	case ">":
		return sign > 0
	}
	return sign >= 0
}

func TestIntIs(t *testing.T) {
	for _, op := range comparing() {
		for _, a := range wholes() {
			for _, b := range wholes() {
				want := so(op, big.NewInt(a).Cmp(big.NewInt(b)))
				if ok, e := num.IntIs(op, a, b); ok != want || e != api.OK {
					t.Errorf("IntIs(%s, %d, %d): %t, %d", op, a, b, ok, e)
				}
			}
		}
	}
}

// above orders floats that are no NaN as their bits do, both zeros at one place.
func above(a, b uint64) int {
	place := func(bits uint64) int64 {
		if bits&minus != 0 {
			return -int64(bits &^ minus)
		}
		return int64(bits)
	}
	return big.NewInt(place(a)).Cmp(big.NewInt(place(b)))
}

func TestFloatIs(t *testing.T) {
	for _, op := range comparing() {
		for _, a := range numbers() {
			for _, b := range numbers() {
				if ok, e := num.FloatIs(op, a, b); ok != so(op, above(a, b)) || e != api.OK {
					t.Errorf("FloatIs(%s, %x, %x): %t, %d", op, a, b, ok, e)
				}
			}
		}
	}
}

func TestFloatIsOfZeros(t *testing.T) {
	for _, op := range comparing() {
		want := op == "==" || op == "<=" || op == ">="
		for _, c := range [][2]uint64{{0, minus}, {minus, 0}, {0, 0}, {minus, minus}} {
			if ok, e := num.FloatIs(op, c[0], c[1]); ok != want || e != api.OK {
				t.Errorf("FloatIs(%s, %x, %x): %t, %d", op, c[0], c[1], ok, e)
			}
		}
	}
}

func TestFloatIsOfNaNs(t *testing.T) {
	for _, op := range comparing() {
		for _, a := range nans() {
			for _, b := range floats() {
				for _, c := range [][2]uint64{{a, b}, {b, a}, {a, a}} {
					if ok, e := num.FloatIs(op, c[0], c[1]); ok != (op == "!=") || e != api.OK {
						t.Errorf("FloatIs(%s, %x, %x): %t, %d", op, c[0], c[1], ok, e)
					}
				}
			}
		}
	}
}

func TestComparingWrongOperator(t *testing.T) {
	for _, op := range append(append(noOperators(), arithmetic()...), "%") {
		if ok, e := num.IntIs(op, 1, 1); ok || e != api.ErrArg {
			t.Errorf("IntIs(%q, 1, 1): %t, %d", op, ok, e)
		}
		if ok, e := num.FloatIs(op, one, one); ok || e != api.ErrArg {
			t.Errorf("FloatIs(%q, 1, 1): %t, %d", op, ok, e)
		}
		if ok, e := num.FloatIs(op, nan, nan); ok || e != api.ErrArg {
			t.Errorf("FloatIs(%q, NaN, NaN): %t, %d", op, ok, e)
		}
	}
}

func TestFromInt(t *testing.T) {
	for n, want := range map[int64]uint64{
		0: 0, 1: one, -1: minus | one, 2: two, 1 << 53: 0x4340000000000000, 1<<53 + 1: 0x4340000000000000, 1<<53 + 3: 0x4340000000000002,
		-1<<53 - 1: 0xc340000000000000, most: 0x43e0000000000000, least: 0xc3e0000000000000, most - 512: 0x43dfffffffffffff, most - 511: 0x43e0000000000000,
	} {
		if bits := num.FromInt(n); bits != want {
			t.Errorf("FromInt(%d): %x; wanted %x", n, bits, want)
		}
	}
	for _, n := range wholes() {
		if want := next(new(big.Rat).SetInt64(n)); n != 0 && num.FromInt(n) != want {
			t.Errorf("FromInt(%d): %x; wanted %x", n, num.FromInt(n), want)
		}
	}
}

func TestPlain(t *testing.T) {
	for _, bits := range nans() {
		if num.Plain(bits) != nan {
			t.Errorf("Plain(%x): %x", bits, num.Plain(bits))
		}
	}
	for _, bits := range numbers() {
		if num.Plain(bits) != bits {
			t.Errorf("Plain(%x): %x", bits, num.Plain(bits))
		}
	}
}

func TestSumsAndProductsHangOnNoOrder(t *testing.T) {
	for _, op := range []string{"+", "*"} {
		for _, a := range wholes() {
			for _, b := range wholes() {
				m, _ := num.Int(op, a, b)
				if n, _ := num.Int(op, b, a); m != n {
					t.Errorf("Int(%s, %d, %d): %d; turned about %d", op, a, b, m, n)
				}
			}
		}
		for _, a := range floats() {
			for _, b := range floats() {
				m, _ := num.Float(op, a, b)
				if n, _ := num.Float(op, b, a); m != n {
					t.Errorf("Float(%s, %x, %x): %x; turned about %x", op, a, b, m, n)
				}
			}
		}
	}
}

func TestSumWithNought(t *testing.T) {
	for _, a := range floats() {
		want := a
		if isNaN(a) {
			want = nan
		} else if a == minus {
			want = 0
		}
		if n, e := num.Float("+", a, 0); n != want || e != api.OK {
			t.Errorf("Float(+, %x, 0): %x, %d; wanted %x", a, n, e, want)
		}
	}
}

func TestJustOneOfThree(t *testing.T) {
	for _, a := range numbers() {
		for _, b := range numbers() {
			n := 0
			for _, op := range []string{"<", "==", ">"} {
				if ok, _ := num.FloatIs(op, a, b); ok {
					n++
				}
			}
			if n != 1 {
				t.Errorf("%x, %x: %d of <, ==, >", a, b, n)
			}
		}
	}
}
