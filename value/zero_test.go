package value_test

import (
	"strconv"
	"testing"

	"gristmill/api"
	"gristmill/value"
)

// P8.1.
func TestZeroOfEachKind(t *testing.T) {
	file := given(t)
	none, one := aStruct("None"), aStruct("One", anInt(0))
	isZero(t, file, whole(), anInt(0))
	isZero(t, file, truth(), aBool(0))
	isZero(t, file, text(), aString(""))
	isZero(t, file, pointed(), aFloat(0))
	isZero(t, file, named("None"), none)
	isZero(t, file, named("One"), one)
	isZero(t, file, named("All"), aStruct("All", anInt(0), aBool(0), aString(""), aFloat(0), aSlice(), one, none))
	isZero(t, file, named("Turned"), aStruct("Turned", none, one, aSlice(), aFloat(0), aString(""), aBool(0), anInt(0)))
	isZero(t, file, named("Tree"), aStruct("Tree", anInt(0), aSlice()))
	for _, of := range []api.Type{whole(), truth(), text(), pointed(), named("One"), named("Tree"), named("Straight"), named("Lost"), slice(whole()), slice(slice(named("Ring")))} {
		isZero(t, file, slice(of), aSlice())
	}
	hasNoZero(t, file, named("Nowhere"), slice(named("Nowhere")), slice(), api.Type{}, plain(api.TypeStruct), plain(api.TypeSlice))
}

// TestZeroOfStructsWithinStructs, in whatever order they stand.
func TestZeroOfStructsWithinStructs(t *testing.T) {
	for _, s := range []string{
		"type A struct { a B; b C; c B }; type B struct { a C; b int }; type C struct { a string; b []A }",
		"type C struct { a string; b []A }; type B struct { a C; b int }; type A struct { a B; b C; c B }",
	} {
		file := read(t, s)
		c := aStruct("C", aString(""), aSlice())
		b := aStruct("B", c, anInt(0))
		isZero(t, file, named("C"), c)
		isZero(t, file, named("B"), b)
		isZero(t, file, named("A"), aStruct("A", b, c, b))
	}
}

// TestZeroOfStructsThatHaveThemselves: none, unless it is in slices alone.
func TestZeroOfStructsThatHaveThemselves(t *testing.T) {
	file := read(t, `
type Self struct { a Self }
type Behind struct { a int; b string; c Behind }
type Ahead struct { a Ahead; b int }
type Twice struct { a Twice; b Twice }
type One struct { a Two }
type Two struct { a int; b Three }
type Three struct { a One; b []One }
type Into struct { a int; b Three }
type Sliced struct { a []Sliced; b int }
type Deep struct { a [][][]Deep; b []Into; c Sliced }
type Left struct { a []Right; b int }
type Right struct { a []Left; b Left }
`)
	hasNoZero(t, file, named("Self"), named("Behind"), named("Ahead"), named("Twice"), named("One"), named("Two"), named("Three"), named("Into"))
	isKnown(t, file, named("Self"), named("Behind"), named("Ahead"), named("Twice"), named("One"), named("Two"), named("Three"), named("Into"))
	isZero(t, file, named("Sliced"), aStruct("Sliced", aSlice(), anInt(0)))
	isZero(t, file, named("Deep"), aStruct("Deep", aSlice(), aSlice(), aStruct("Sliced", aSlice(), anInt(0))))
	isZero(t, file, named("Left"), aStruct("Left", aSlice(), anInt(0)))
	isZero(t, file, named("Right"), aStruct("Right", aSlice(), aStruct("Left", aSlice(), anInt(0))))
}

// TestZeroOfRings of many structs, entered anywhere.
func TestZeroOfRings(t *testing.T) {
	const many = 100
	var ring, chain []api.Node
	for i := range many {
		next := typed("S" + strconv.Itoa((i+1)%many))
		ring = append(ring, structNode("S"+strconv.Itoa(i), field("a", typed("int")), field("b", next)))
		if i == many-1 {
			next = sliceNode(next)
		}
		chain = append(chain, structNode("S"+strconv.Itoa(i), field("a", typed("int")), field("b", next)))
	}
	want := aSlice()
	for i := many - 1; i >= 0; i-- {
		of := named("S" + strconv.Itoa(i))
		hasNoZero(t, fileNode(ring...), of)
		want = aStruct(of.Name, anInt(0), want)
		isZero(t, fileNode(chain...), of, want)
	}
}

// wide is a struct of so many values, itself counted.
func wide(name string, many int) api.Node {
	s := structNode(name)
	for i := range many - 1 {
		s.Kids = append(s.Kids, field("a"+strconv.Itoa(i), typed("int")))
	}
	return s
}

func many(v api.Value) int {
	n := 1
	for _, part := range v.Parts {
		n += many(part)
	}
	return n
}

// hasMany asks for a zero value of so many values, and for none of one more: that what makes the struct is told.
func hasMany(t *testing.T, most int, file func(more int) api.Node) {
	t.Helper()
	of := named("S")
	for _, more := range []int{-1, 0} {
		v, ok := value.Zero(file(more), of)
		if !ok || many(v) != most+more || !value.Is(file(more), v, of) {
			t.Errorf("%d values, %v", many(v), ok)
		}
	}
	for _, more := range []int{1, 2, 1000} {
		hasNoZero(t, file(more), of)
		isKnown(t, file(more), of)
	}
}

func TestZeroOfAsMuchAsMayBe(t *testing.T) {
	const most = 1 << 15
	s := func(kids ...api.Node) api.Node { return structNode("S", kids...) }
	in := func(name string) api.Node { return field("b", typed(name)) }
	hasMany(t, most, func(more int) api.Node { return fileNode(wide("S", most+more)) })
	hasMany(t, most, func(more int) api.Node { return fileNode(s(in("W")), wide("W", most-1+more)) })
	hasMany(t, most, func(more int) api.Node {
		return fileNode(wide("V", most/2+more), s(in("W"), in("V")), wide("W", most/2-1))
	})
	hasMany(t, most, func(more int) api.Node {
		return fileNode(wide("V", most/2+more), s(in("V"), in("W")), wide("W", most/2-1))
	})
	hasMany(t, most, func(more int) api.Node { // slices count as one, whatever they are of
		return fileNode(s(field("a", sliceNode(typed("S"))), field("a", sliceNode(typed("V"))), in("W")), wide("V", most*2), wide("W", most-3+more))
	})
	hasMany(t, most, func(more int) api.Node { // structs without fields count, too
		w := structNode("W")
		for range most - 2 + more {
			w.Kids = append(w.Kids, in("E"))
		}
		return fileNode(s(in("W")), w, structNode("E"))
	})
	hasMany(t, most, func(more int) api.Node { // 2^15 - 1 in pairs of pairs, and the one around them
		kids := []api.Node{s(in("P14")), structNode("P0")}
		if more < 0 {
			kids[0] = structNode("S", in("P13"), in("Q"))
			kids = append(kids, wide("Q", 1<<14-1))
		}
		for range more {
			kids[0].Kids = append(kids[0].Kids, in("P0"))
		}
		for i := range 14 {
			kids = append(kids, structNode("P"+strconv.Itoa(i+1), in("P"+strconv.Itoa(i)), in("P"+strconv.Itoa(i))))
		}
		return fileNode(kids...)
	})
	hasMany(t, most, func(more int) api.Node { return fileNode(chained(most + more)...) })
}

// chained are so many structs in one another, the outermost first.
func chained(many int) []api.Node {
	kids := []api.Node{structNode("S")}
	for i := range many - 1 {
		name := "C" + strconv.Itoa(i)
		kids[i].Kids = []api.Node{field("a", typed(name))}
		kids = append(kids, structNode(name))
	}
	return kids
}

// TestZeroOfMuchMoreThanMayBe: R1; structs that double, each of the next ones.
func TestZeroOfMuchMoreThanMayBe(t *testing.T) {
	kids := []api.Node{structNode("D0", field("a", typed("int")))}
	for i := range 5000 {
		in := typed("D" + strconv.Itoa(i))
		kids = append(kids, structNode("D"+strconv.Itoa(i+1), field("a", in), field("b", in)))
	}
	file := fileNode(kids...)
	for _, i := range []int{0, 1, 2, 12, 13} {
		v, ok := value.Zero(file, named("D"+strconv.Itoa(i)))
		if !ok || many(v) != 3<<i-1 {
			t.Errorf("D%d: %d values, %v", i, many(v), ok)
		}
	}
	for _, i := range []int{14, 15, 16, 30, 31, 32, 33, 61, 62, 63, 64, 65, 126, 128, 1000, 5000} {
		hasNoZero(t, file, named("D"+strconv.Itoa(i)))
		isKnown(t, file, named("D"+strconv.Itoa(i)))
	}
	hasNoZero(t, fileNode(wide("S", 1<<20)), named("S"))
	hasNoZero(t, fileNode(chained(1<<18)...), named("S"))
}

// TestValuesOfMoreThanAZeroValueMayHave: values have no limit but that.
func TestValuesOfMoreThanAZeroValueMayHave(t *testing.T) {
	file := fileNode(wide("S", 1<<16))
	hasNoZero(t, file, named("S"))
	parts := make([]api.Value, 1<<16-1)
	for i := range parts {
		parts[i] = anInt(int64(i))
	}
	isOne(t, file, aStruct("S", parts...), named("S"))
	isOne(t, file, aSlice(aStruct("S", parts...), aStruct("S", parts...)), slice(named("S")))
	isNone(t, file, aStruct("S", parts[1:]...), named("S"))
	isNone(t, file, aStruct("S", append(parts, anInt(0))...), named("S"))
	isOne(t, file, aSlice(parts...), slice(whole()))
	parts[len(parts)-1] = aBool(0)
	isNone(t, file, aStruct("S", parts...), named("S"))
	isNone(t, file, aSlice(parts...), slice(whole()))
}
