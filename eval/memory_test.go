package eval_test

import (
	"reflect"
	"strings"
	"testing"
	"unsafe"

	"gristmill/api"
	"gristmill/eval"
)

// roomy is a value anew, with room behind its lists in which something lies.
func roomy(v api.Value) api.Value {
	v.Text, v.Name = strings.Clone(v.Text), strings.Clone(v.Name)
	parts := make([]api.Value, 0, len(v.Parts)+2)
	for _, part := range v.Parts {
		parts = append(parts, roomy(part))
	}
	v.Parts = append(parts, anInt(77), aString("room"))[:len(parts)]
	return v
}

func hasRoom(v api.Value) bool {
	for _, part := range v.Parts {
		if !hasRoom(part) {
			return false
		}
	}
	room := v.Parts[len(v.Parts):cap(v.Parts)]
	return reflect.DeepEqual(room, vs(anInt(77), aString("room")))
}

// roomyNode is a tree anew, likewise.
func roomyNode(n api.Node) api.Node {
	kids := make([]api.Node, 0, len(n.Kids)+1)
	for _, kid := range n.Kids {
		kids = append(kids, roomyNode(kid))
	}
	n.Text = strings.Clone(n.Text)
	n.Kids = append(kids, api.Node{Kind: api.NodeName, Text: "room", At: 7})[:len(kids)]
	return n
}

func areAlikeNodes(a, b api.Node) bool {
	if a.Kind != b.Kind || a.Text != b.Text || a.Num != b.Num || a.At != b.At || len(a.Kids) != len(b.Kids) || cap(a.Kids) != cap(b.Kids) {
		return false
	}
	as, bs := a.Kids[:cap(a.Kids)], b.Kids[:cap(b.Kids)]
	for i := range as {
		if !areAlikeNodes(as[i], bs[i]) {
			return false
		}
	}
	return true
}

// span is a piece of memory.
type span struct{ from, to uintptr }

func spanOf[T any](first *T, many int) span {
	from := uintptr(unsafe.Pointer(first))
	return span{from, from + uintptr(many)*unsafe.Sizeof(*first)}
}

func textSpans(texts ...string) []span {
	var out []span
	for _, s := range texts {
		if s != "" {
			out = append(out, spanOf(unsafe.StringData(s), len(s)))
		}
	}
	return out
}

// listSpans are where lists of values lie, with the room behind them.
func listSpans(row []api.Value) []span {
	var out []span
	if cap(row) > 0 {
		out = append(out, spanOf(unsafe.SliceData(row), cap(row)))
	}
	for _, v := range row {
		out = append(out, listSpans(v.Parts)...)
	}
	return out
}

func valueTexts(row []api.Value) []span {
	var out []span
	for _, v := range row {
		out = append(out, textSpans(v.Text, v.Name)...)
		out = append(out, valueTexts(v.Parts)...)
	}
	return out
}

func nodeSpans(n api.Node) []span {
	out := append(textSpans(n.Text), spanOf(unsafe.SliceData(n.Kids), cap(n.Kids)))
	for _, kid := range n.Kids {
		out = append(out, nodeSpans(kid)...)
	}
	return out
}

func meets(a, b span) bool { return a.from < b.to && b.from < a.to }

// isApart asks that no two lists of an outcome share memory, and nothing of it any with what was given.
func isApart(t *testing.T, o api.Outcome, given []span) {
	t.Helper()
	lists := listSpans(o.Values)
	for i, a := range lists {
		for _, b := range lists[:i] {
			if meets(a, b) {
				t.Fatalf("%s: two lists share memory", spell(o))
			}
		}
	}
	for _, a := range append(append(lists, valueTexts(o.Values)...), textSpans(o.Text)...) {
		for _, b := range given {
			if meets(a, b) {
				t.Fatalf("%s shares memory with what was given", spell(o))
			}
		}
	}
}

// TestMemory: R3. What is handed in stays as it is; what is handed out is new.
func TestMemory(t *testing.T) {
	args := vs(anInt(4), aString("text"), ints(1, 2, 3), aStruct("pair", anInt(1), ints(5, 6)), aSlice(aStruct("tree", anInt(1), aSlice(aStruct("tree", anInt(2), aSlice())))), aSlice(ints(1), ints(1, 2)))
	const params = "n int, s string, l []int, p pair, q []tree, m [][]int"
	for _, x := range []string{
		"(int, string, []int, pair, []tree, [][]int) { return n, s, l, p, q, m }",
		"([]int, []int, [][]int) { return l, l, [][]int{l, l} }",
		"([]int, [][]int) { l[0] = 9; m[1][0] = l[0]; p.b[0] = 3; q[0].kids[0].of = 7; p.a = 8; return l, m }",
		"([]tree, []tree, pair) { q[0].kids = append(q[0].kids, q[0]); x := q; x[0].kids[0].of = 5; return q, x, p }",
		"([]int, [][]int, pair) { return append(l, 4), append(m, l, l), pair{b: p.b} }",
		"([]int, [][]int, []int) { return l[:2], m[:2], m[0] }",
		"([]int, [][]int, []tree) { return l[:3], m[:0], q[:1] }",
		"(string, string, []string) { return \"text\", s + \"\", []string{s, \"text\"} }",
		"(pair, tree, all) { var x all; return pair{}, tree{}, x }",
		"(pair, []tree) { p = pair{}; q = []tree{}; l = p.b; m[0] = l; return p, q }",
		"{ panic(s) }",
		"{ panic(\"text\") }",
		"{ l[0] = 7; l[3] = n }",
		"{ l[0] = 7; m[0] = l; for { p.b = append(p.b, 1) } }",
		"{ s = s + s; q[0].kids[0].kids = q; n = n / (n - n) }",
	} {
		file := read(t, given+"func f("+params+") "+x)
		tree := roomyNode(file)
		var own []api.Value
		spans := nodeSpans(tree)
		for _, v := range args {
			own = append(own, roomy(v))
		}
		spans = append(spans, valueTexts(own)...)
		spans = append(spans, listSpans(own)...)
		fn := strings.Clone("f")
		first := eval.Run(tree, fn, 1000, own...)
		isApart(t, first, append(spans, textSpans(fn)...))
		for i, v := range own {
			if !alike(v, args[i]) || !hasRoom(v) {
				t.Errorf("%s: argument %d was changed", x, i)
			}
		}
		if !areAlikeNodes(tree, roomyNode(file)) {
			t.Errorf("%s: the tree was changed", x)
		}
		want := eval.Run(file, "f", 1000, args...)
		if !areAlike(first, want) {
			t.Errorf("%s: %s, not %s", x, spell(first), spell(want))
		}
		second := eval.Run(tree, fn, 1000, own...)
		isApart(t, second, append(spans, listSpans(first.Values)...))
		for i := range own {
			spoil(own[i : i+1])
		}
		spoil(second.Values)
		if !areAlike(first, want) {
			t.Errorf("%s: was changed with an argument, or another answer", x)
		}
	}
}

// spoil changes all of values' memory.
func spoil(row []api.Value) {
	for i := range row[:cap(row)] {
		spoil(row[:cap(row)][i].Parts)
		row[:cap(row)][i] = api.Value{Kind: 99, Num: 5, Text: "spoilt", Name: "spoilt", Parts: []api.Value{{}}}
	}
}

// TestArgumentsThatShareMemory are values of their own.
func TestArgumentsThatShareMemory(t *testing.T) {
	row := vs(anInt(1), anInt(2), anInt(3))
	a, b := aSlice(row...), aSlice(row[:2]...)
	file := read(t, "package p; func f(a []int, b []int, c [][]int) ([]int, []int, [][]int) { a[0] = 7; b[1] = 8; c[0][0] = 9; c[1][1] = 5; return a, b, c }")
	o := ends(t, file, "[7 2 3] [1 8] [[9 2 3] [1 5] [1 2 3]]", a, b, aSlice(a, b, a))
	isApart(t, o, listSpans(row))
	if !reflect.DeepEqual(row, vs(anInt(1), anInt(2), anInt(3))) {
		t.Error(row)
	}
}

// TestEndless: R1. A value that lies within itself is none of a type.
func TestEndless(t *testing.T) {
	row := vs(aStruct("tree", anInt(1), aSlice()))
	row[0].Parts[1].Parts = row
	file := read(t, given+"func f(a tree) { a = a }; func g(a []int) { a = a }; func h(a [][]int) { a = a }")
	isOnlyErrArg := func(fn string, v api.Value) {
		t.Helper()
		if o := eval.Run(file, fn, 10, v); !reflect.DeepEqual(o, api.Outcome{Err: api.ErrArg}) {
			t.Errorf("%+v", o)
		}
	}
	isOnlyErrArg("f", row[0])
	knot := vs(aSlice())
	knot[0].Parts = knot
	isOnlyErrArg("g", knot[0])
	isOnlyErrArg("h", knot[0])
	kids := []api.Node{{Kind: api.NodeFunc, Text: "f"}}
	kids[0].Kids = kids
	if o := eval.Run(api.Node{Kind: api.NodeFile, Text: "p", Kids: kids}, "f", 10); !reflect.DeepEqual(o, api.Outcome{Err: api.ErrShape}) {
		t.Errorf("%+v", o)
	}
}
