package value_test

import (
	"math"
	"strings"
	"testing"

	"gristmill/api"
	"gristmill/parse"
	"gristmill/value"
)

func hasText(t *testing.T, v api.Value, want string) {
	t.Helper()
	if got := value.Text(v); got != want {
		t.Errorf("%s: %.300q, not %.300q", spell(v), got, want)
	}
}

// P8.3.
func TestTextOfEachKind(t *testing.T) {
	for n, want := range map[int64]string{0: "0", 1: "1", -1: "-1", 7: "7", 10: "10", -10: "-10", 1234567890: "1234567890", 1<<63 - 1: "9223372036854775807", -1 << 63: "-9223372036854775808", -1<<63 + 1: "-9223372036854775807"} {
		hasText(t, anInt(n), want)
	}
	hasText(t, aBool(1), "true")
	for _, n := range []int64{0, 2, -1, 1<<32 + 1, -1 << 63} {
		hasText(t, aBool(n), "false")
	}
	for bits, want := range map[uint64]string{
		0: "0x0000000000000000", 1: "0x0000000000000001", 1 << 63: "0x8000000000000000", 0x3ff0000000000000: "0x3ff0000000000000",
		0x7ff0000000000000: "0x7ff0000000000000", 0x7ff8000000000001: "0x7ff8000000000001", 0x7ff8000000000000: "0x7ff8000000000000",
		0x0123456789abcdef: "0x0123456789abcdef", 0xfedcba9876543210: "0xfedcba9876543210", math.MaxUint64: "0xffffffffffffffff", 0xab: "0x00000000000000ab",
	} {
		hasText(t, aFloat(bits), want)
	}
	hasText(t, aFloat(math.Float64bits(1)), "0x3ff0000000000000")
	hasText(t, aSlice(), "[]")
	hasText(t, aStruct("T"), "T{}")
	for kind := range 256 {
		if kind < 1 || kind > 6 {
			hasText(t, api.Value{Kind: api.TypeKind(kind)}, "?")
			hasText(t, api.Value{Kind: api.TypeKind(kind), Num: 1, Text: "a", Bits: 1, Name: "n", Parts: []api.Value{anInt(1)}}, "?")
		}
	}
}

func TestTextOfStrings(t *testing.T) {
	hasText(t, aString(""), `""`)
	hasText(t, aString("a b"), `"a b"`)
	hasText(t, aString("\n\t\r\\\"'"), `"\n\t\r\\\"'"`)
	hasText(t, aString("é\xff\x00\x7f~"), `"\xc3\xa9\xff\x00\x7f~"`)
	for c := range 256 {
		of := string([]byte{byte(c)})
		got := value.Text(aString(of))
		pairs := map[byte]string{10: `"\n"`, 9: `"\t"`, 13: `"\r"`, 92: `"\\"`, 34: `"\""`}
		want, ok := pairs[byte(c)]
		if !ok && c >= 32 && c <= 126 {
			want = `"` + of + `"`
		} else if !ok {
			want = `"\x` + string("0123456789abcdef"[c>>4]) + string("0123456789abcdef"[c&15]) + `"`
		}
		if got != want {
			t.Errorf("%d: %s, not %s", c, got, want)
		}
		block, f := parse.Action("a = " + value.Text(aString(of+"a"+of)))
		if f != (api.Fault{}) || block.Kids[0].Kids[1].Text != of+"a"+of {
			t.Errorf("%d: %v", c, f)
		}
	}
}

func TestTextOfParts(t *testing.T) {
	hasText(t, aSlice(anInt(1)), "[1]")
	hasText(t, aSlice(anInt(1), anInt(-2)), "[1 -2]")
	hasText(t, aSlice(anInt(1), anInt(2), anInt(3)), "[1 2 3]")
	hasText(t, aSlice(aSlice()), "[[]]")
	hasText(t, aSlice(aSlice(), aSlice()), "[[] []]")
	hasText(t, aSlice(aSlice(anInt(1), anInt(2)), aSlice(), aSlice(anInt(3))), "[[1 2] [] [3]]")
	hasText(t, aSlice(aString(" "), aString("")), `[" " ""]`)
	hasText(t, aSlice(api.Value{}, aBool(1), api.Value{Kind: 9, Parts: []api.Value{{}}}), "[? true ?]")
	hasText(t, aStruct("T", anInt(0), aSlice()), "T{0 []}")
	hasText(t, aStruct("T", anInt(0), aSlice(aStruct("T", anInt(1), aSlice()))), "T{0 [T{1 []}]}")
	hasText(t, aStruct("", anInt(0)), "{0}")
	hasText(t, aStruct("a \"\n", aStruct("b"), aStruct("c")), "a \"\n{b{} c{}}")
	hasText(t, aSlice(aStruct("A"), aStruct("B", aStruct("C"))), "[A{} B{C{}}]")
	hasText(t, aStruct("A", aSlice(aStruct("B", aSlice(), anInt(1)), anInt(2)), anInt(3)), "A{[B{[] 1} 2] 3}")
}

// TestTextAsksItsKindAlone: what is set beside makes no difference.
func TestTextAsksItsKindAlone(t *testing.T) {
	full := api.Value{Num: 1, Text: "t", Bits: 2, Name: "n", Parts: []api.Value{anInt(5), aSlice(anInt(6))}}
	for kind, want := range map[api.TypeKind]string{api.TypeInt: "1", api.TypeBool: "true", api.TypeString: `"t"`, api.TypeFloat: "0x0000000000000002", api.TypeSlice: "[5 [6]]", api.TypeStruct: "n{5 [6]}", 0: "?", 7: "?"} {
		full.Kind = kind
		hasText(t, full, want)
		hasText(t, aSlice(full, full), "["+want+" "+want+"]")
		hasText(t, aStruct("T", full), "T{"+want+"}")
	}
}

func TestTextOfAnyValue(t *testing.T) {
	all := values()
	for i, v := range all {
		hasText(t, v, bookText(v))
		w := aSlice(v, all[(i*7+1)%len(all)], aStruct("s", all[(i*5+2)%len(all)], v))
		hasText(t, w, bookText(w))
	}
	hasText(t, aSlice(make([]api.Value, 1000)...), "["+strings.Repeat("? ", 999)+"?]")
}
