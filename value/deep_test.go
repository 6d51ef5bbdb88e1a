package value_test

import (
	"runtime/debug"
	"strings"
	"testing"

	"gristmill/api"
	"gristmill/value"
)

// far is so deep that calls within calls have no room in the stack that confine leaves.
const far = 1 << 17

// confine leaves little stack till what it answers is called.
func confine() func() {
	was := debug.SetMaxStack(1 << 23)
	return func() { debug.SetMaxStack(was) }
}

// nested is a value within so many of what around makes of one.
func nested(many int, v api.Value, around func(v api.Value) api.Value) api.Value {
	for range many {
		v = around(v)
	}
	return v
}

func inSlice(v api.Value) api.Value { return aSlice(v) }

func inTree(v api.Value) api.Value { return aStruct("Tree", anInt(1), aSlice(v)) }

func inPair(v api.Value) api.Value { return aSlice(aSlice(), v, aSlice()) }

// isEqual is of long texts that a report need not have.
func isEqual(t *testing.T, got, want string) {
	t.Helper()
	if got != want {
		t.Errorf("%d bytes, %.100q, not %d, %.100q", len(got), got, len(want), want)
	}
}

// TestDeepValues: R1; calls within calls would go too deep.
func TestDeepValues(t *testing.T) {
	defer confine()()
	file := given(t)
	leaf := aStruct("Tree", anInt(1), aSlice())
	for _, x := range []struct {
		around            func(v api.Value) api.Value
		leaf, other       api.Value
		ahead, it, behind string
		of                api.Type
		is                bool
	}{
		{inTree, leaf, anInt(1), "Tree{1 [", "Tree{1 []}", "]}", named("Tree"), true},
		{inSlice, aSlice(), anInt(0), "[", "[]", "]", slice(whole()), false},
		{inPair, aString("a"), aString("b"), "[[] ", `"a"`, " []]", slice(whole()), false},
	} {
		v, w := nested(far, x.leaf, x.around), nested(far, x.other, x.around)
		isEqual(t, value.Text(v), strings.Repeat(x.ahead, far)+x.it+strings.Repeat(x.behind, far))
		if value.Is(file, v, x.of) != x.is || value.Is(file, w, x.of) {
			t.Errorf("%s: of %s", spell(v), spellType(x.of))
		}
		if !value.Same(v, v) || !value.Same(v, nested(far, x.leaf, x.around)) || value.Same(v, w) || value.Same(w, v) || value.Same(v, nested(far+1, x.leaf, x.around)) {
			t.Errorf("%s: Same", spell(v))
		}
		if c := value.Copy(v); !value.Same(c, v) || value.Same(c, w) {
			t.Errorf("%s: Copy", spell(v))
		}
	}
}

// TestDeepTypes: R1.
func TestDeepTypes(t *testing.T) {
	defer confine()()
	file := given(t)
	deep := func(many int, of api.Type) api.Type {
		for range many {
			of = slice(of)
		}
		return of
	}
	for _, of := range []api.Type{whole(), named("One"), named("Ring")} {
		of = deep(far, of)
		isZero(t, file, of, aSlice())
		isOne(t, file, aSlice(aSlice(aSlice(), aSlice())), of)
		isNone(t, file, aSlice(aSlice(anInt(0))), of)
		isNone(t, file, aStruct("None"), of)
	}
	isOne(t, file, nested(far, anInt(1), inSlice), deep(far, whole()))
	isOne(t, file, nested(far, aStruct("One", anInt(1)), inSlice), deep(far, named("One")))
	isNone(t, file, nested(far, anInt(1), inSlice), deep(far, named("One")), deep(far-1, whole()), deep(far+1, whole()))
	for _, of := range []api.Type{{}, named("Nowhere"), slice(), slice(whole(), whole()), {Kind: api.TypeInt, Name: "a"}} {
		of = deep(far, of)
		hasNoZero(t, file, of)
		isNone(t, file, aSlice(), of)
	}
}

// TestDeepFields: R1; a field's type may be as deep, and stand there often.
func TestDeepFields(t *testing.T) {
	defer confine()()
	deep, lost := typed("S"), typed("Nowhere")
	for range 1 << 16 {
		deep, lost = sliceNode(deep), sliceNode(lost)
	}
	s := structNode("S", field("a", typed("int")), field("b", deep))
	around := structNode("A")
	for range 1 << 13 {
		around.Kids = append(around.Kids, field("a", typed("S")))
	}
	zero := aStruct("S", anInt(0), aSlice())
	isZero(t, fileNode(s, around), named("S"), zero)
	want := aStruct("A")
	for range 1 << 13 {
		want.Parts = append(want.Parts, zero)
	}
	isZero(t, fileNode(s, around), named("A"), want)
	for _, spoilt := range []api.Node{field("b", lost), field("b", node(api.NodeSlice, "", deep, deep))} {
		hasNoZero(t, fileNode(structNode("S", spoilt), around), named("S"), named("A"))
		isNone(t, fileNode(structNode("S", spoilt), around), want, named("A"))
	}
}

// TestGreatValues: R1.
func TestGreatValues(t *testing.T) {
	file := given(t)
	parts := make([]api.Value, far)
	var b strings.Builder
	for i := range parts {
		parts[i] = aStruct("Tree", anInt(1), aSlice())
		b.WriteString(" Tree{1 []}")
	}
	v := aSlice(parts...)
	isEqual(t, value.Text(v), "["+b.String()[1:]+"]")
	isOne(t, file, v, slice(named("Tree")))
	isOne(t, file, aStruct("Tree", anInt(0), v), named("Tree"))
	c := value.Copy(v)
	if !value.Same(v, c) {
		t.Error("a copy is another one")
	}
	c.Parts[far-1].Parts[1].Parts = []api.Value{aStruct("Tree", anInt(1))}
	isNone(t, file, c, slice(named("Tree")))
	areSame(t, v, c, false)
	long := strings.Repeat("\x00", far)
	isEqual(t, value.Text(aString(long)), `"`+strings.Repeat(`\x00`, far)+`"`)
	isOne(t, file, aString(long), text())
	areSame(t, aString(long), value.Copy(aString(long)), true)
	isEqual(t, value.Text(aStruct(long)), long+"{}")
}

// knot is a value that lies within itself: so many rows of it in a ring, each with others beside.
func knot(kind api.TypeKind, many int, beside api.Value) api.Value {
	first := api.Value{Kind: kind, Name: "Tree", Parts: make([]api.Value, 2)}
	last := first
	for range many - 1 {
		next := api.Value{Kind: kind, Name: "Tree", Parts: make([]api.Value, 2)}
		last.Parts[0], last.Parts[1] = beside, next
		last = next
	}
	last.Parts[0], last.Parts[1] = beside, first
	return first
}

// TestValuesWithinThemselves: R1; they have no end.
func TestValuesWithinThemselves(t *testing.T) {
	defer confine()()
	file := given(t)
	for _, kind := range []api.TypeKind{api.TypeSlice, api.TypeStruct} {
		for many := 1; many <= 4; many++ {
			v := knot(kind, many, anInt(1))
			for _, in := range []api.Value{v, aSlice(v), aStruct("a", anInt(1), v), aSlice(anInt(1), v, v)} {
				hasText(t, in, "?")
				for _, of := range []api.Type{whole(), slice(whole()), slice(slice(whole())), named("Tree"), slice(named("Tree"))} {
					isNone(t, file, in, of)
				}
				c := value.Copy(in)
				areSame(t, in, in, true)
				areSame(t, c, in, true)
			}
			areSame(t, v, knot(kind, many, anInt(1)), true)
			areSame(t, v, knot(kind, many+1, anInt(1)), true)
			areSame(t, v, knot(kind, many, anInt(2)), false)
			areSame(t, v, anInt(1), false)
			areSame(t, v, aSlice(anInt(1), aSlice(anInt(1), aSlice())), false)
			c := value.Copy(v)
			v.Parts[0] = anInt(7)
			areSame(t, v, c, false)
			areSame(t, c, knot(kind, many, anInt(1)), true)
		}
	}
	tree := aStruct("Tree", anInt(1), aSlice(aStruct("Tree", anInt(1), aSlice())))
	isOne(t, file, tree, named("Tree"))
	tree.Parts[1].Parts[0] = tree
	isNone(t, file, tree, named("Tree"))
	hasText(t, tree, "?")
	row := []api.Value{anInt(1), {Kind: api.TypeInt}}
	row[1].Parts = row
	hasText(t, row[1], "0")
	isNone(t, file, row[1], whole())
	hasText(t, api.Value{Parts: row}, "?")
}

// TestTypesWithinThemselves: R1; they are not known.
func TestTypesWithinThemselves(t *testing.T) {
	file := given(t)
	knotted := slice(whole())
	knotted.Elem[0] = knotted
	two := slice(slice(whole()))
	two.Elem[0].Elem[0] = two
	for _, of := range []api.Type{knotted, two, slice(two), slice(slice(slice(knotted)))} {
		hasNoZero(t, file, of)
		for _, v := range []api.Value{{}, anInt(0), aSlice(), aSlice(aSlice())} {
			isNone(t, file, v, of)
		}
	}
	isOne(t, file, aSlice(aSlice()), slice(slice(named("Tree"))))
}

// TestFilesWithinThemselves: R1.
func TestFilesWithinThemselves(t *testing.T) {
	kids := []api.Node{structNode("S"), structNode("T", field("a", typed("int")))}
	kids[0].Kids = kids
	isUnknown(t, fileNode(kids...), named("S"))
	isZero(t, fileNode(kids...), named("T"), aStruct("T", anInt(0)))
	endless := sliceNode(typed("int"))
	endless.Kids[0] = endless
	isUnknown(t, fileNode(structNode("S", field("a", endless))), named("S"))
	fields := []api.Node{field("a")}
	fields[0].Kids = fields
	isUnknown(t, fileNode(structNode("S", fields...)), named("S"))
}
