package value_test

import (
	"slices"
	"strconv"
	"testing"

	"gristmill/api"
	"gristmill/parse"
	"gristmill/value"
)

func plain(kind api.TypeKind) api.Type { return api.Type{Kind: kind} }

func whole() api.Type   { return plain(api.TypeInt) }
func truth() api.Type   { return plain(api.TypeBool) }
func text() api.Type    { return plain(api.TypeString) }
func pointed() api.Type { return plain(api.TypeFloat) }

func named(name string) api.Type { return api.Type{Kind: api.TypeStruct, Name: name} }

func slice(of ...api.Type) api.Type { return api.Type{Kind: api.TypeSlice, Elem: of} }

func anInt(n int64) api.Value      { return api.Value{Kind: api.TypeInt, Num: n} }
func aBool(n int64) api.Value      { return api.Value{Kind: api.TypeBool, Num: n} }
func aString(s string) api.Value   { return api.Value{Kind: api.TypeString, Text: s} }
func aFloat(bits uint64) api.Value { return api.Value{Kind: api.TypeFloat, Bits: bits} }

func aSlice(parts ...api.Value) api.Value {
	return api.Value{Kind: api.TypeSlice, Parts: parts}
}

func aStruct(name string, parts ...api.Value) api.Value {
	return api.Value{Kind: api.TypeStruct, Name: name, Parts: parts}
}

func node(kind api.NodeKind, text string, kids ...api.Node) api.Node {
	return api.Node{Kind: kind, Text: text, Kids: kids}
}

func typed(name string) api.Node { return node(api.NodeType, name) }

func sliceNode(of api.Node) api.Node { return node(api.NodeSlice, "", of) }

func field(name string, kids ...api.Node) api.Node { return node(api.NodeField, name, kids...) }

func structNode(name string, fields ...api.Node) api.Node {
	return node(api.NodeStruct, name, fields...)
}

func fileNode(kids ...api.Node) api.Node { return node(api.NodeFile, "p", kids...) }

func read(t *testing.T, s string) api.Node {
	t.Helper()
	n, f := parse.File("package p\n" + s)
	if f != (api.Fault{}) {
		t.Fatalf("%.300q: %v", s, f)
	}
	return n
}

// given is a file of structs in one another.
func given(t *testing.T) api.Node {
	t.Helper()
	return read(t, `
type None struct { }
type One struct { a int }
type All struct { a int; b bool; c string; d float64; e []int; f One; g None }
type Turned struct { g None; f One; e []int; d float64; c string; b bool; a int }
type Tree struct { of int; kids []Tree }
type Straight struct { in Straight }
type Ring struct { in Rung }
type Rung struct { a int; in []int; on Rail }
type Rail struct { a int; in Ring }
type Beside struct { of Ring; a int }
type Rows struct { a []Straight; b [][]Ring; c []Beside }
type Lost struct { a int; b Nowhere }
type Astray struct { a []Nowhere }
type Around struct { a Lost }
func f() { }
`)
}

// alike holds values against each other all through; lists without elements and nil ones are one.
func alike(a, b api.Value) bool {
	return a.Kind == b.Kind && a.Num == b.Num && a.Text == b.Text && a.Bits == b.Bits && a.Name == b.Name && slices.EqualFunc(a.Parts, b.Parts, alike)
}

// spell is as much of a value as a report needs.
func spell(v api.Value) string { return spellTo(v, 6) }

func spellTo(v api.Value, deep int) string {
	s := strconv.Itoa(int(v.Kind)) + ":"
	if v.Num != 0 {
		s += " Num " + strconv.FormatInt(v.Num, 10)
	}
	if v.Text != "" {
		s += " Text " + strconv.Quote(v.Text[:min(len(v.Text), 40)])
	}
	if v.Bits != 0 {
		s += " Bits " + strconv.FormatUint(v.Bits, 16)
	}
	if v.Name != "" {
		s += " Name " + strconv.Quote(v.Name[:min(len(v.Name), 40)])
	}
	for i, part := range v.Parts {
		if deep == 0 || i == 6 {
			return s + ".."
		}
		s += "(" + spellTo(part, deep-1) + ")"
	}
	return s
}

func spellType(t api.Type) string {
	s := ""
	for range 6 {
		s += strconv.Itoa(int(t.Kind)) + t.Name[:min(len(t.Name), 40)]
		if len(t.Elem) == 0 {
			return s
		}
		s += "*" + strconv.Itoa(len(t.Elem)) + " "
		t = t.Elem[0]
	}
	return s + ".."
}

// isZero asks for the zero value of a type, and for that to be one of it (P8.4).
func isZero(t *testing.T, file api.Node, of api.Type, want api.Value) {
	t.Helper()
	got, ok := value.Zero(file, of)
	if !ok || !alike(got, want) {
		t.Errorf("Zero of %s: %s, %v, not %s", spellType(of), spell(got), ok, spell(want))
	}
	isOne(t, file, got, of)
}

func hasNoZero(t *testing.T, file api.Node, types ...api.Type) {
	t.Helper()
	for _, of := range types {
		if got, ok := value.Zero(file, of); ok || !alike(got, api.Value{}) || got.Parts != nil {
			t.Errorf("Zero of %s: %s, %v", spellType(of), spell(got), ok)
		}
	}
}

func isOne(t *testing.T, file api.Node, v api.Value, types ...api.Type) {
	t.Helper()
	for _, of := range types {
		if !value.Is(file, v, of) {
			t.Errorf("%s is none of %s", spell(v), spellType(of))
		}
	}
}

func isNone(t *testing.T, file api.Node, v api.Value, types ...api.Type) {
	t.Helper()
	for _, of := range types {
		if value.Is(file, v, of) {
			t.Errorf("%s is one of %s", spell(v), spellType(of))
		}
	}
}

// isKnown asks for types that are known: a slice of them has a value without Parts, and a zero value.
func isKnown(t *testing.T, file api.Node, types ...api.Type) {
	t.Helper()
	for _, of := range types {
		isOne(t, file, aSlice(), slice(of), slice(slice(of)))
		isZero(t, file, slice(of), aSlice())
		if of.Kind != api.TypeStruct {
			isZero(t, file, of, api.Value{Kind: of.Kind})
		}
	}
}

// isUnknown asks for types that are not known, of which nothing is a value.
func isUnknown(t *testing.T, file api.Node, types ...api.Type) {
	t.Helper()
	for _, of := range types {
		hasNoZero(t, file, of, slice(of), slice(slice(of)))
		isNone(t, file, aSlice(), of, slice(of), slice(slice(of)))
		isNone(t, file, api.Value{Kind: of.Kind, Name: of.Name}, of)
		for _, v := range ordinary() {
			isNone(t, file, v, of)
			isNone(t, file, aSlice(v), slice(of))
		}
	}
}

// ordinary are values of all Kinds, each one of a type that the given file knows.
func ordinary() []api.Value {
	all := aStruct("All", anInt(-7), aBool(1), aString("a\"b"), aFloat(0x3ff0000000000000), aSlice(anInt(1), anInt(2)), aStruct("One", anInt(3)), aStruct("None"))
	return []api.Value{
		anInt(0), anInt(1), anInt(-1), anInt(1<<63 - 1), anInt(-1 << 63),
		aBool(0), aBool(1),
		aString(""), aString("a"), aString("\x00\xff é"),
		aFloat(0), aFloat(1 << 63), aFloat(0x3ff0000000000000), aFloat(0x7ff0000000000000), aFloat(0x7ff8000000000001),
		aSlice(), aSlice(anInt(1)), aSlice(anInt(1), anInt(1)), aSlice(aSlice(), aSlice(anInt(1))), aSlice(aStruct("None")),
		aStruct("None"), aStruct("One", anInt(1)), all,
		aStruct("Tree", anInt(1), aSlice(aStruct("Tree", anInt(2), aSlice()), aStruct("Tree", anInt(3), aSlice(aStruct("Tree", anInt(4), aSlice()))))),
	}
}

// strange are values of any shape, most of them of no type.
func strange() []api.Value {
	full := api.Value{Num: 1, Text: "t", Bits: 1, Name: "n", Parts: []api.Value{anInt(1), {}}}
	out := []api.Value{{}, {Parts: []api.Value{{}}}}
	for kind := range 256 {
		full.Kind = api.TypeKind(kind)
		out = append(out, api.Value{Kind: full.Kind}, full, api.Value{Kind: full.Kind, Parts: []api.Value{full, full}})
	}
	for _, bits := range []uint64{0x7ff8000000000000, 0x7ff0000000000001, 0xfff8000000000001, 0xffffffffffffffff} {
		out = append(out, aFloat(bits), aSlice(aFloat(bits)), aStruct("a", aFloat(bits)))
	}
	return append(out,
		api.Value{Num: -1}, api.Value{Text: "t"}, api.Value{Bits: 5}, api.Value{Name: "n"},
		aBool(2), aBool(-1), aStruct(""), aStruct("a b\n{\xff", anInt(1), aString("}")),
		aSlice(api.Value{}, anInt(0), aString("")), aSlice(aSlice(aSlice(aStruct("a", aSlice())))),
	)
}

func values() []api.Value { return append(ordinary(), strange()...) }
