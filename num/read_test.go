package num_test

import (
	"math/big"
	"strings"
	"testing"

	"gristmill/num"
)

// noNumbers are neither whole numbers nor floats.
func noNumbers() []string {
	return []string{
		"", " ", ".", "..", "-", "+", "-1", "+1", "1 ", " 1", "\t1", "1\n", "1\x00", "1_0", "1_0.0", "0x1", "0x1.0", "0x1p4", "0b1", "0o7", "1e3", "1E3",
		"1.0e1", "1.0e+1", "-1.0", "+1.0", "1.0 ", " 1.0", "1. 0", "1 .0", "1.", ".1", "1..0", "1.0.0", "1.0.", ".1.0", "1,0", "1.0f", "1.-0", "1.+0",
		"inf", "Inf", "NaN", "nan", "infinity", "a", "1a", "a1", "\u0661", "\u0661.\u0660", "\uff11", "1.\u0660", "\xff", "1\xff", "/", ":", "1/2", "1:2", "1./", ":.1",
	}
}

func TestReadInt(t *testing.T) {
	for s, want := range map[string]int64{
		"0": 0, "1": 1, "7": 7, "9": 9, "10": 10, "90": 90, "100": 100, "1234567890": 1234567890, "4294967296": 1 << 32,
		"999999999999999999": 999999999999999999, "9223372036854775806": most - 1, "9223372036854775807": most,
	} {
		if n, ok := num.ReadInt(s); n != want || !ok {
			t.Errorf("ReadInt(%s): %d, %t; wanted %d", s, n, ok, want)
		}
	}
}

func TestReadIntWrong(t *testing.T) {
	for _, s := range append(noNumbers(),
		"00", "01", "007", "0000000000000000000", "09223372036854775807", "0.0", "1.0",
		"9223372036854775808", "9223372036854775810", "9300000000000000000", "9999999999999999999", "10000000000000000000",
		"18446744073709551615", "18446744073709551616", "18446744073709551617", "36893488147419103233",
		strings.Repeat("9", 40), "1"+strings.Repeat("0", 5000), strings.Repeat("0", 5000),
	) {
		if n, ok := num.ReadInt(s); n != 0 || ok {
			t.Errorf("ReadInt(%q): %d, %t", s, n, ok)
		}
	}
}

func TestReadFloat(t *testing.T) {
	for s, want := range map[string]uint64{
		"0.0": 0, "0.00": 0, "1.0": one, "1.00": one, "2.0": two, "0.5": half, "0.50": half, "10.0": 0x4024000000000000, "0.1": 0x3fb999999999999a, "0.2": 0x3fc999999999999a, "3.0": 0x4008000000000000,
		"9007199254740992.0": 0x4340000000000000, "9007199254740993.0": 0x4340000000000000, "9007199254740993.1": 0x4340000000000001,
		"9007199254740993.000000000000000000000001": 0x4340000000000001, "9007199254740992.999999999999999999999999": 0x4340000000000000, "9007199254740995.0": 0x4340000000000002,
		"0." + strings.Repeat("0", 39): 0,
	} {
		if n, ok := num.ReadFloat(s); n != want || !ok {
			t.Errorf("ReadFloat(%s): %x, %t; wanted %x", s, n, ok, want)
		}
	}
}

// spelt are floats as texts: of many lengths, the point at many places.
func spelt() []string {
	var out []string
	for _, digits := range []string{strings.Repeat("9", 40), strings.Repeat("1", 40), "1" + strings.Repeat("0", 39), "1234567890123456789012345678901234567890", "9007199254740993900719925474099390071993", "8988465674311579538646525953945123668089"} {
		for n := 2; n <= len(digits); n++ {
			for point := 1; point < n; point++ {
				out = append(out, digits[:point]+"."+digits[point:n])
			}
			out = append(out, "0."+digits[:n-1], "0."+strings.Repeat("0", 40-n)+digits[:n-1])
		}
	}
	return out
}

func TestReadFloatNextToWhatIsSpelt(t *testing.T) {
	for _, s := range spelt() {
		z, _ := new(big.Rat).SetString(s)
		if n, ok := num.ReadFloat(s); n != next(z) || !ok {
			t.Errorf("ReadFloat(%s): %x, %t; wanted %x", s, n, ok, next(z))
		}
	}
}

func TestReadFloatDigits(t *testing.T) {
	for _, point := range []int{1, 2, 20, 38, 39} {
		s := strings.Repeat("5", point) + "." + strings.Repeat("5", 40-point)
		if n, ok := num.ReadFloat(s); n == 0 || !ok {
			t.Errorf("40 digits: ReadFloat(%s): %x, %t", s, n, ok)
		}
		for _, s := range []string{s + "5", "5" + s, s + "0"} {
			if n, ok := num.ReadFloat(s); n != 0 || ok {
				t.Errorf("41 digits: ReadFloat(%s): %x, %t", s, n, ok)
			}
		}
	}
}

func TestReadFloatWrong(t *testing.T) {
	for _, s := range append(noNumbers(),
		"0", "1", "10", "00.0", "00.1", "01.0", "007.5", "0000.0", "01.", strings.Repeat("1", 40), strings.Repeat("1", 40)+".", "."+strings.Repeat("1", 40),
		"0."+strings.Repeat("0", 40), "1."+strings.Repeat("0", 5000), strings.Repeat("9", 5000)+".0",
	) {
		if n, ok := num.ReadFloat(s); n != 0 || ok {
			t.Errorf("ReadFloat(%q): %x, %t", s, n, ok)
		}
	}
}
