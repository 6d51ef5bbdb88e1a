package value_test

import (
	"testing"

	"gristmill/api"
	"gristmill/value"
)

// P8.1.
func TestTypesOfEachKind(t *testing.T) {
	file := given(t)
	isKnown(t, file, whole(), truth(), text(), pointed(), named("None"), named("One"), named("All"), named("Turned"), named("Tree"))
	names := []string{"", "a", "int", "One", "None"}
	elems := [][]api.Type{nil, {}, {whole()}, {named("One")}, {{}}, {slice(text())}, {whole(), whole()}, {named("Nowhere")}, {whole(), {}, text()}}
	known := 0
	for kind := range 256 {
		for _, name := range names {
			for _, elem := range elems {
				of := api.Type{Kind: api.TypeKind(kind), Name: name, Elem: elem}
				if bookKnown(file, of) {
					isKnown(t, file, of)
					known++
				} else {
					isUnknown(t, file, of)
				}
			}
		}
	}
	if known != 4*2+3+2*2 {
		t.Errorf("%d are known", known)
	}
}

func TestTypesThatAreNotKnown(t *testing.T) {
	file := given(t)
	isUnknown(t, file,
		api.Type{}, plain(7), plain(255),
		api.Type{Kind: api.TypeInt, Name: "int"}, api.Type{Kind: api.TypeString, Name: "One"},
		api.Type{Kind: api.TypeBool, Elem: []api.Type{truth()}}, api.Type{Kind: api.TypeFloat, Elem: []api.Type{{}}},
		slice(), slice(whole(), whole()), slice(whole(), text()), slice(api.Type{}),
		api.Type{Kind: api.TypeSlice, Name: "a", Elem: []api.Type{whole()}},
		slice(slice()), slice(slice(slice(whole(), whole()))), slice(slice(api.Type{Kind: api.TypeSlice, Name: "One", Elem: []api.Type{named("One")}})),
		named("Nowhere"), named(""), named("one"), named("One "), named("int"), named("f"), named("p"), named("a"),
		api.Type{Kind: api.TypeStruct, Name: "One", Elem: []api.Type{whole()}},
		api.Type{Kind: api.TypeStruct, Name: "None", Elem: []api.Type{{}}},
		slice(named("Nowhere")), slice(slice(slice(named("Nowhere")))),
	)
}

// TestStructsWithoutValues: what their fields are is not asked of a type that is known.
func TestStructsWithoutValues(t *testing.T) {
	file := given(t)
	for _, of := range []api.Type{named("Straight"), named("Ring"), named("Rung"), named("Rail"), named("Beside"), named("Lost"), named("Astray"), named("Around")} {
		isKnown(t, file, of)
		hasNoZero(t, file, of)
	}
	isZero(t, file, named("Rows"), aStruct("Rows", aSlice(), aSlice(), aSlice()))
	isNone(t, file, aStruct("Astray", aSlice()), named("Astray"))
	isNone(t, file, aStruct("Lost", anInt(0), aStruct("Nowhere")), named("Lost"))
	isNone(t, file, aStruct("Lost", anInt(0), anInt(0)), named("Lost"))
	isNone(t, file, aSlice(aStruct("Astray", aSlice())), slice(named("Astray")))
	isNone(t, file, aStruct("Around", aStruct("Lost", anInt(0), aStruct("Nowhere"))), named("Around"))
	isNone(t, file, aStruct("Straight"), named("Straight"))
	isNone(t, file, aStruct("Straight", aStruct("Straight")), named("Straight"))
}

// TestFieldsThatHaveNoType: a struct is not known, unless each of its Kids has just one Kid, a type.
func TestFieldsThatHaveNoType(t *testing.T) {
	a := field("a", typed("int"))
	for i, spoilt := range []api.Node{
		field("b"),
		field("b", typed("int"), typed("int")),
		field("b", api.Node{}),
		field("b", typed("")),
		field("b", typed("7")),
		field("b", typed("for")),
		field("b", node(api.NodeName, "int")),
		field("b", node(api.NodeType, "int", typed("int"))),
		field("b", node(api.NodeSlice, "")),
		field("b", node(api.NodeSlice, "int")),
		field("b", node(api.NodeSlice, "", typed("int"), typed("int"))),
		field("b", sliceNode(node(api.NodeSlice, ""))),
		field("b", structNode("One", a)),
		field("b", field("b", typed("int"))),
		field("b", api.Node{Kind: api.NodeType, Text: "int", Num: 1}),
		field("b", api.Node{Kind: api.NodeType, Text: "int", At: -1}),
		typed("int"),
		{},
	} {
		for _, fields := range [][]api.Node{{spoilt}, {spoilt, a}, {a, spoilt}, {a, spoilt, a}} {
			file := fileNode(structNode("One", a), structNode("S", fields...), structNode("Has", field("a", typed("S"))))
			isUnknown(t, file, named("S"))
			isKnown(t, file, named("One"), named("Has"))
			isZero(t, file, named("One"), aStruct("One", anInt(0)))
			hasNoZero(t, file, named("Has"))
			isNone(t, file, aStruct("Has", aStruct("S", anInt(0))), named("Has"))
			if t.Failed() {
				t.Fatalf("of spoilt field %d", i)
			}
		}
	}
}

// TestTheFirstOfOneTextCounts, whatever stands behind it, or is no struct ahead of it.
func TestTheFirstOfOneTextCounts(t *testing.T) {
	numbers := structNode("S", field("a", typed("int")), field("b", typed("int")))
	words := structNode("S", field("a", typed("string")))
	spoilt := structNode("S", field("a"))
	lost := structNode("S", field("a", typed("Nowhere")))
	function := node(api.NodeFunc, "S", node(api.NodeParams, ""), node(api.NodeResults, ""), node(api.NodeBlock, ""))
	other := structNode("T", field("a", typed("bool")))
	two, one := aStruct("S", anInt(0), anInt(0)), aStruct("S", aString(""))
	for _, kids := range [][]api.Node{{numbers, words}, {numbers, spoilt}, {numbers, lost, words}, {other, function, numbers, spoilt, other}} {
		file := fileNode(kids...)
		isKnown(t, file, named("S"))
		isZero(t, file, named("S"), two)
		isNone(t, file, one, named("S"))
	}
	for _, kids := range [][]api.Node{{words, numbers}, {words, spoilt}, {function, other, words, numbers}} {
		file := fileNode(kids...)
		isKnown(t, file, named("S"))
		isZero(t, file, named("S"), one)
		isNone(t, file, two, named("S"))
	}
	for _, kids := range [][]api.Node{{spoilt, words}, {function, spoilt, numbers}, {function}, {other}, {field("S", typed("int"))}, {}} {
		isUnknown(t, fileNode(kids...), named("S"))
	}
	for _, kids := range [][]api.Node{{lost, words}, {lost, numbers}} {
		file := fileNode(kids...)
		isKnown(t, file, named("S"))
		hasNoZero(t, file, named("S"))
		isNone(t, file, one, named("S"))
		isNone(t, file, two, named("S"))
	}
}

// TestFilesOfAnyShape: nothing is asked of a file but its Kids, of a struct but its Text and its Kids, of a field but its only Kid.
func TestFilesOfAnyShape(t *testing.T) {
	for kind := range 256 {
		for _, name := range []string{"", "int", "7 \xff", "for", "S", "main"} {
			fields := []api.Node{
				{Kind: api.NodeKind(kind), Text: name, Num: kind, At: -kind, Kids: []api.Node{typed("int")}},
				{Kind: api.NodeKind(kind), Text: name, Kids: []api.Node{sliceNode(typed("bool"))}},
			}
			s := api.Node{Kind: api.NodeStruct, Text: name, Num: kind, At: -kind, Kids: fields}
			file := api.Node{Kind: api.NodeKind(kind), Text: name, Num: -1, At: -1, Kids: []api.Node{{}, s, s}}
			isKnown(t, file, named(name))
			isZero(t, file, named(name), aStruct(name, anInt(0), aSlice()))
			isOne(t, file, aStruct(name, anInt(int64(kind)), aSlice(aBool(1))), named(name))
			isUnknown(t, file, named(name+"."))
			s.Kind = api.NodeKind(kind)
			_, ok := value.Zero(fileNode(s), named(name))
			if ok != (s.Kind == api.NodeStruct) {
				t.Errorf("of a node of the Kind %d: %v", kind, ok)
			}
		}
	}
}
