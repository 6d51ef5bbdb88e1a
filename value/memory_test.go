package value_test

import (
	"reflect"
	"testing"

	"gristmill/api"
	"gristmill/value"
)

// roomyNode is a tree anew with room behind its lists in which something lies.
func roomyNode(n api.Node) api.Node {
	kids := make([]api.Node, len(n.Kids)+1)
	for i, kid := range n.Kids {
		kids[i] = roomyNode(kid)
	}
	kids[len(n.Kids)] = structNode("room", field("room", typed("int")))
	n.Text = string([]byte(n.Text))
	n.Kids = kids[:len(n.Kids)]
	return n
}

func areAlikeNodes(a, b api.Node) bool {
	if a.Kind != b.Kind || a.Text != b.Text || a.Num != b.Num || a.At != b.At || len(a.Kids) != len(b.Kids) || cap(a.Kids) != cap(b.Kids) {
		return false
	}
	as, bs := a.Kids[:cap(a.Kids)], b.Kids[:cap(b.Kids)]
	for i := range as {
		if !areAlikeNodes(as[i], bs[i]) {
			return false
		}
	}
	return true
}

func roomyType(t api.Type) api.Type {
	out := api.Type{Kind: t.Kind, Name: string([]byte(t.Name))}
	for _, of := range t.Elem {
		out.Elem = append(out.Elem, roomyType(of))
	}
	out.Elem = append(out.Elem, named("room"), slice(named("room")))[:len(t.Elem)]
	return out
}

func areAlikeTypes(a, b api.Type) bool {
	if a.Kind != b.Kind || a.Name != b.Name || len(a.Elem) != len(b.Elem) {
		return false
	}
	for i := range a.Elem {
		if !areAlikeTypes(a.Elem[i], b.Elem[i]) {
			return false
		}
	}
	room := a.Elem[len(a.Elem) : len(a.Elem)+2]
	return reflect.DeepEqual(room, []api.Type{named("room"), slice(named("room"))})
}

// textsOfNodes are where a tree's texts lie.
func textsOfNodes(n api.Node) []span {
	out := texts(api.Value{Text: n.Text})
	for _, kid := range n.Kids {
		out = append(out, textsOfNodes(kid)...)
	}
	return out
}

// TestMemory: R3. What is handed in stays as it is; what is handed out is new.
func TestMemory(t *testing.T) {
	file := roomyNode(given(t))
	types := []api.Type{{}, whole(), truth(), text(), pointed(), slice(), slice(whole()), slice(slice(named("One"))), slice(whole(), text()), named("room"),
		named("None"), named("One"), named("All"), named("Turned"), named("Tree"), named("Rows"), named("Ring"), named("Lost"), slice(named("Nowhere"))}
	for _, was := range types {
		of := roomyType(was)
		zero, ok := value.Zero(file, of)
		if ok {
			areApart(t, zero, append(textsOfNodes(file), texts(api.Value{Name: of.Name})...)...)
			again, _ := value.Zero(file, of)
			areApart(t, aSlice(zero, again))
			spoil(zero)
			if third, _ := value.Zero(file, of); !alike(third, again) {
				t.Errorf("%s: %s", spellType(of), spell(third))
			}
		}
		for _, v := range values() {
			given, other := anew(v), anew(v)
			value.Is(file, given, of)
			value.Same(given, other)
			value.Text(given)
			if !alike(given, v) || !hasRoom(given) || !hasRoom(other) {
				t.Fatalf("%s was changed", spell(v))
			}
		}
		if !areAlikeTypes(of, roomyType(was)) || !areAlikeNodes(file, roomyNode(given(t))) {
			t.Fatalf("%s: the type, or the file, was changed", spellType(of))
		}
	}
}

// TestErrorsTellNothingBeside: beside a false the zero value is a zero one.
func TestErrorsTellNothingBeside(t *testing.T) {
	file := given(t)
	for _, of := range []api.Type{{}, slice(), named("Nowhere"), named("Straight"), named("Beside"), named("Lost"), named("Astray"), named("Around"), {Kind: 200, Name: "a"}} {
		if v, ok := value.Zero(file, of); ok || !reflect.DeepEqual(v, api.Value{}) {
			t.Errorf("%s: %s, %v", spellType(of), spell(v), ok)
		}
	}
}
