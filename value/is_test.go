package value_test

import (
	"testing"

	"gristmill/api"
	"gristmill/value"
)

// P8.1.
func TestValuesOfPlainTypes(t *testing.T) {
	file := given(t)
	types := []api.Type{whole(), truth(), text(), pointed(), slice(whole()), named("None"), named("One")}
	plainOnes := map[api.TypeKind][]api.Value{
		api.TypeInt:    {anInt(0), anInt(1), anInt(2), anInt(-1), anInt(1<<63 - 1), anInt(-1 << 63)},
		api.TypeBool:   {aBool(0), aBool(1)},
		api.TypeString: {aString(""), aString("a"), aString("\x00\"\\\xff"), aString(string(make([]byte, 1<<20)))},
		api.TypeFloat:  {aFloat(0), aFloat(1), aFloat(1 << 63), aFloat(0x3ff0000000000000), aFloat(0x7fefffffffffffff), aFloat(0x7ff0000000000000), aFloat(0xfff0000000000000), aFloat(0x7ff8000000000001)},
	}
	for kind, ones := range plainOnes {
		for _, v := range ones {
			for _, of := range types {
				if of.Kind == kind {
					isOne(t, file, v, of)
					isOne(t, file, aSlice(v), slice(of))
				} else {
					isNone(t, file, v, of)
					isNone(t, file, aSlice(v), slice(of))
				}
			}
		}
	}
}

func TestTruthsAreNoughtOrOne(t *testing.T) {
	file := given(t)
	for _, n := range []int64{-1 << 63, -1<<63 + 1, -1 << 32, -3, -2, -1, 2, 3, 4, 255, 256, 257, 1 << 32, 1<<32 + 1, 1 << 62, 1<<63 - 1} {
		isNone(t, file, aBool(n), truth())
		isNone(t, file, aSlice(aBool(0), aBool(n)), slice(truth()))
		isOne(t, file, anInt(n), whole())
	}
}

// TestFloatsArePlain: of all NaNs one is a value.
func TestFloatsArePlain(t *testing.T) {
	file := given(t)
	const one = 0x7ff8000000000001
	for _, sign := range []uint64{0, 1 << 63} {
		for _, bits := range []uint64{0x7ff8000000000000, one, 0x7ff8000000000002, 0x7ff0000000000001, 0x7ff0000000000000 | 1<<51, 0x7fffffffffffffff, 0x7ff4000000000000} {
			if v := aFloat(sign | bits); v.Bits == one {
				isOne(t, file, v, pointed())
			} else {
				isNone(t, file, v, pointed())
				isNone(t, file, aSlice(aFloat(0), v), slice(pointed()))
			}
		}
		for _, bits := range []uint64{0, 1, 0x000fffffffffffff, 0x0010000000000000, 0x7fefffffffffffff, 0x7ff0000000000000} {
			isOne(t, file, aFloat(sign|bits), pointed())
		}
	}
}

// besides are values with a field set beside that another Kind's may have.
func besides(v api.Value) []api.Value {
	var out []api.Value
	for _, n := range []int64{1, -1, 1 << 32} {
		with := v
		with.Num = n
		out = append(out, with)
	}
	for _, s := range []string{"a", "\x00", " "} {
		with := v
		with.Text = s
		out = append(out, with)
		with = v
		with.Name = s
		out = append(out, with)
	}
	for _, bits := range []uint64{1, 1 << 63, 0x7ff8000000000001} {
		with := v
		with.Bits = bits
		out = append(out, with)
	}
	for _, parts := range [][]api.Value{{{}}, {anInt(0)}, {anInt(1), anInt(2)}, {aString("")}, {v}} {
		with := v
		with.Parts = parts
		out = append(out, with)
	}
	return out
}

func TestFieldsBeside(t *testing.T) {
	file := given(t)
	all := []api.Type{whole(), truth(), text(), pointed(), slice(whole()), slice(text()), named("None"), named("One")}
	for _, v := range []api.Value{anInt(0), anInt(5), aBool(0), aBool(1), aString(""), aString("b"), aFloat(0), aFloat(1 << 62), aSlice(), aSlice(anInt(3)), aStruct("None"), aStruct("One", anInt(3))} {
		for _, with := range besides(v) {
			for _, of := range all {
				if bookIs(file, with, of) {
					isOne(t, file, with, of)
				} else {
					isNone(t, file, with, of)
					isNone(t, file, aSlice(with), slice(of))
				}
			}
		}
	}
	isOne(t, file, api.Value{Kind: api.TypeInt, Parts: []api.Value{}}, whole())
	isOne(t, file, api.Value{Kind: api.TypeSlice, Parts: []api.Value{}}, slice(whole()))
	isOne(t, file, api.Value{Kind: api.TypeStruct, Name: "None", Parts: []api.Value{}}, named("None"))
}

func TestValuesOfSlices(t *testing.T) {
	file := given(t)
	one, none, tree := aStruct("One", anInt(1)), aStruct("None"), aStruct("Tree", anInt(1), aSlice())
	isOne(t, file, aSlice(), slice(whole()), slice(text()), slice(slice(whole())), slice(named("One")), slice(named("Straight")))
	isOne(t, file, aSlice(anInt(1), anInt(1), anInt(-2)), slice(whole()))
	isOne(t, file, aSlice(one, one), slice(named("One")))
	isOne(t, file, aSlice(tree), slice(named("Tree")))
	isOne(t, file, aSlice(aSlice(), aSlice(aString("")), aSlice()), slice(slice(text())))
	isOne(t, file, aSlice(aSlice(), aSlice()), slice(slice(text())), slice(slice(slice(truth()))))
	isNone(t, file, aSlice(aSlice()), slice(whole()), slice(named("None")), whole(), named("None"))
	isNone(t, file, aSlice(aSlice(anInt(1)), aSlice(aString(""))), slice(slice(text())), slice(slice(whole())))
	isNone(t, file, aSlice(aSlice(aSlice())), slice(slice(text())), slice(slice(named("None"))))
	for _, odd := range []api.Value{{}, aBool(1), aString(""), aFloat(0), aSlice(), one, none, {Kind: api.TypeInt, Text: "a"}, {Kind: 7}} {
		for _, v := range []api.Value{aSlice(odd), aSlice(odd, anInt(1), anInt(2)), aSlice(anInt(1), odd, anInt(2)), aSlice(anInt(1), anInt(2), odd)} {
			isNone(t, file, v, slice(whole()), whole())
		}
	}
	for _, odd := range []api.Value{{}, anInt(0), aSlice(), none, tree, aStruct("one", anInt(1)), aStruct("One", aBool(1)), aStruct("One"), aStruct("")} {
		for _, v := range []api.Value{aSlice(odd), aSlice(odd, one), aSlice(one, odd), aSlice(one, odd, one)} {
			isNone(t, file, v, slice(named("One")), named("One"))
		}
	}
}

func TestValuesOfStructs(t *testing.T) {
	file := given(t)
	parts := []api.Value{anInt(-7), aBool(1), aString("a"), aFloat(1 << 62), aSlice(anInt(1), anInt(2)), aStruct("One", anInt(3)), aStruct("None")}
	isOne(t, file, aStruct("All", parts...), named("All"))
	isNone(t, file, aStruct("All", parts...), named("Turned"), named("One"), named("None"), whole(), slice(named("All")))
	isNone(t, file, aStruct("", parts...), named("All"), named(""))
	isNone(t, file, aStruct("Turned", parts...), named("All"), named("Turned"))
	for i := range parts {
		isNone(t, file, aStruct("All", parts[:i]...), named("All"))
		isNone(t, file, aStruct("All", parts[i+1:]...), named("All"))
		for _, odd := range append(values(), parts...) {
			changed := append([]api.Value{}, parts...)
			changed[i] = odd
			if want := odd.Kind == parts[i].Kind && bookIs(file, aStruct("All", changed...), named("All")); want {
				isOne(t, file, aStruct("All", changed...), named("All"))
			} else {
				isNone(t, file, aStruct("All", changed...), named("All"))
			}
			more := append(append(append([]api.Value{}, parts[:i]...), odd), parts[i:]...)
			isNone(t, file, aStruct("All", more...), named("All"))
			isNone(t, file, aStruct("All", append(append([]api.Value{}, parts...), odd)...), named("All"))
		}
		for k := range i {
			turned := append([]api.Value{}, parts...)
			turned[i], turned[k] = turned[k], turned[i]
			isNone(t, file, aStruct("All", turned...), named("All"))
		}
	}
}

func TestValuesOfStructsThatHaveThemselvesInSlices(t *testing.T) {
	file := given(t)
	leaf := aStruct("Tree", anInt(0), aSlice())
	tree := aStruct("Tree", anInt(1), aSlice(leaf, aStruct("Tree", anInt(2), aSlice(leaf)), leaf))
	isOne(t, file, tree, named("Tree"))
	isOne(t, file, aSlice(tree, leaf), slice(named("Tree")))
	for _, odd := range []api.Value{anInt(0), aSlice(), aStruct("One", anInt(0)), aStruct("Tree"), aStruct("Tree", anInt(0)), aStruct("Tree", aSlice(), anInt(0)), aStruct("Tree", anInt(0), aSlice(anInt(0))), aStruct("tree", anInt(0), aSlice())} {
		isNone(t, file, aStruct("Tree", anInt(1), aSlice(leaf, aStruct("Tree", anInt(2), aSlice(odd)), leaf)), named("Tree"))
		isNone(t, file, aStruct("Tree", anInt(1), aSlice(leaf, leaf, odd)), named("Tree"))
	}
}

// TestStructsOfOneShape have values of their own.
func TestStructsOfOneShape(t *testing.T) {
	file := read(t, "type A struct { a int; b B }; type B struct { a int }; type C struct { a int; b B }; type D struct { x int }")
	v := aStruct("A", anInt(1), aStruct("B", anInt(2)))
	isOne(t, file, v, named("A"))
	isNone(t, file, v, named("C"), named("B"))
	isNone(t, file, aStruct("A", anInt(1), aStruct("D", anInt(2))), named("A"), named("C"))
	isNone(t, file, aStruct("B", anInt(1)), named("D"))
}

// TestValuesHangOnTheFile, and on nothing that was asked ahead.
func TestValuesHangOnTheFile(t *testing.T) {
	a, b := read(t, "type S struct { a int }"), read(t, "type S struct { a string }")
	for range 3 {
		isOne(t, a, aStruct("S", anInt(1)), named("S"))
		isNone(t, b, aStruct("S", anInt(1)), named("S"))
		isNone(t, a, aStruct("S", aString("")), named("S"))
		isOne(t, b, aStruct("S", aString("")), named("S"))
		isNone(t, api.Node{}, aStruct("S", anInt(1)), named("S"))
		isOne(t, api.Node{}, anInt(1), whole())
		isZero(t, a, named("S"), aStruct("S", anInt(0)))
		isZero(t, b, named("S"), aStruct("S", aString("")))
		if _, ok := value.Zero(api.Node{}, named("S")); ok {
			t.Error("of no file")
		}
	}
}
