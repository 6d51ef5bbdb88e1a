package check_test

import (
	"strconv"
	"strings"
	"testing"
	"unsafe"

	"gristmill/api"
	"gristmill/check"
)

func plain(kind api.TypeKind) api.Type { return api.Type{Kind: kind} }

func slice(of api.Type) api.Type { return api.Type{Kind: api.TypeSlice, Elem: []api.Type{of}} }

func structure(name string) api.Type { return api.Type{Kind: api.TypeStruct, Name: name} }

func sliceNode(of api.Node) api.Node {
	return api.Node{Kind: api.NodeSlice, Kids: []api.Node{of}}
}

// spellType is a type as a text, with all of its fields.
func spellType(t api.Type) string {
	s := strconv.Itoa(int(t.Kind)) + strconv.Quote(t.Name)
	for _, of := range t.Elem {
		s += "(" + spellType(of) + ")"
	}
	return s
}

func spellTypes(row []api.Type) string {
	var out []string
	for _, t := range row {
		out = append(out, spellType(t))
	}
	return strings.Join(out, " ")
}

func isType(t *testing.T, n api.Node, want api.Type) {
	t.Helper()
	tree, kept := roomy(n, func(i int) int { return i * 3 }), roomy(n, func(i int) int { return i * 3 })
	got, ok := check.TypeOf(tree)
	if !ok || spellType(got) != spellType(want) || !check.SameType(got, want) {
		t.Errorf("%s: %s, not %s", spell(n), spellType(got), spellType(want))
	}
	if !alike(tree, kept) {
		t.Errorf("%s was changed", spell(n))
	}
}

func isNoType(t *testing.T, n api.Node) {
	t.Helper()
	if got, ok := check.TypeOf(n); ok || spellType(got) != spellType(api.Type{}) || got.Elem != nil {
		t.Errorf("%s: %s", spell(n), spellType(got))
	}
}

// P7.5.
func TestTypeOf(t *testing.T) {
	t.Parallel()
	for name, want := range map[string]api.Type{"int": plain(api.TypeInt), "bool": plain(api.TypeBool), "string": plain(api.TypeString), "float64": plain(api.TypeFloat)} {
		isType(t, typed(name), want)
		isType(t, sliceNode(typed(name)), slice(want))
		isType(t, sliceNode(sliceNode(sliceNode(typed(name)))), slice(slice(slice(want))))
	}
	for _, name := range append(strings.Fields("a T pair Int ints float int64 len append panic init main nil undeclared _1 _a"), strings.Repeat("Z", 40)) {
		isType(t, typed(name), structure(name))
		isType(t, sliceNode(sliceNode(typed(name))), slice(slice(structure(name))))
	}
	isType(t, api.Node{Kind: api.NodeType, Text: "int", At: 1 << 40, Kids: []api.Node{}}, plain(api.TypeInt))
}

func TestNodesOfNoType(t *testing.T) {
	t.Parallel()
	for kind := range 256 {
		for _, text := range []string{"", "int", "T"} {
			for _, kids := range [][]api.Node{nil, {typed("int")}, {typed("int"), typed("int")}} {
				isRight := kind == int(api.NodeType) && text != "" && kids == nil || kind == int(api.NodeSlice) && text == "" && len(kids) == 1
				n := api.Node{Kind: api.NodeKind(kind), Text: text, Kids: kids}
				if !isRight {
					isNoType(t, n)
					isNoType(t, sliceNode(n))
					isNoType(t, sliceNode(sliceNode(n)))
				}
			}
		}
	}
	for _, name := range append(strings.Fields("_ 1 1a a-b if for true false type struct \u00e9 []int"), "", " ", "a b", "int ", strings.Repeat("Z", 41)) {
		isNoType(t, typed(name))
		isNoType(t, sliceNode(typed(name)))
	}
	for _, n := range []api.Node{typed("int"), sliceNode(typed("int")), sliceNode(sliceNode(typed("T")))} {
		num, at := n, n
		num.Num, at.At = 1, -1
		for _, wrong := range []api.Node{num, at} {
			isNoType(t, wrong)
			isNoType(t, sliceNode(wrong))
		}
		num.Num = -1
		isNoType(t, num)
	}
	isNoType(t, read(t, "package p"))
}

// TestDeepTypes: a type's node is right by the table, however deep it is.
func TestDeepTypes(t *testing.T) {
	t.Parallel()
	for _, many := range []int{50, 56, 57, 58, 59, 60, 61, 100, 5000, 1 << 17} {
		n, want, wrong := typed("T"), structure("T"), typed("1")
		for range many {
			n, want, wrong = sliceNode(n), slice(want), sliceNode(wrong)
		}
		got, ok := check.TypeOf(n)
		if !ok || !check.SameType(got, want) || !check.SameType(want, got) {
			t.Errorf("%d: %v", many, ok)
		}
		if check.SameType(got, slice(want)) || check.SameType(got, want.Elem[0]) {
			t.Errorf("%d is as %d", many, many+1)
		}
		isNoType(t, wrong)
	}
}

// TestTypesThatNeverEnd: R1.
func TestTypesThatNeverEnd(t *testing.T) {
	t.Parallel()
	for _, many := range []int{1, 2, 3, 10, 1000} {
		ring := make([]api.Node, many)
		types := make([]api.Type, many)
		for i := range ring {
			ring[i] = api.Node{Kind: api.NodeSlice}
			types[i] = plain(api.TypeSlice)
		}
		for i := range ring {
			k := (i + 1) % many
			ring[i].Kids, types[i].Elem = ring[k:k+1:k+1], types[k:k+1:k+1]
		}
		isNoType(t, ring[0])
		isNoType(t, sliceNode(sliceNode(ring[many-1])))
		if !check.SameType(types[0], types[0]) || !check.SameType(types[0], types[many-1]) || check.SameType(types[0], slice(plain(api.TypeInt))) {
			t.Errorf("%d", many)
		}
	}
	knot := []api.Type{{Kind: api.TypeSlice}, {Kind: api.TypeSlice}, {Kind: api.TypeInt}}
	knot[0].Elem, knot[1].Elem = knot, knot
	other := []api.Type{{Kind: api.TypeSlice}, {Kind: api.TypeSlice}, {Kind: api.TypeBool}}
	other[0].Elem, other[1].Elem = other, other
	if !check.SameType(knot[0], knot[1]) || check.SameType(knot[0], other[0]) || check.SameType(other[0], knot[1]) {
		t.Error("knots")
	}
	file := api.Node{Kind: api.NodeFile, Text: "p", Kids: make([]api.Node, 1)}
	file.Kids[0] = file
	if f := check.File(file); f != (api.Fault{Err: api.ErrShape}) {
		t.Error(f)
	}
}

// TestSharedTypes: as a tree they would be too many to be gone through.
func TestSharedTypes(t *testing.T) {
	t.Parallel()
	doubled := func(of api.Type) api.Type {
		for range 100 {
			of = api.Type{Kind: api.TypeSlice, Elem: []api.Type{of, of}}
		}
		return of
	}
	a, b, c := doubled(plain(api.TypeInt)), doubled(plain(api.TypeInt)), doubled(plain(api.TypeBool))
	if !check.SameType(a, b) || check.SameType(a, c) || check.SameType(c, b) {
		t.Error("doubled")
	}
}

func TestSameType(t *testing.T) {
	t.Parallel()
	var types []api.Type
	for kind := range 256 {
		types = append(types, plain(api.TypeKind(kind)))
	}
	for _, kind := range []api.TypeKind{api.TypeInt, api.TypeStruct, api.TypeSlice, 9} {
		for _, name := range []string{"T", "U", "", "t", "int"} {
			for _, elem := range [][]api.Type{nil, {plain(api.TypeInt)}, {plain(api.TypeBool)}, {structure("T")}, {structure("U")}, {plain(api.TypeInt), plain(api.TypeInt)}, {plain(api.TypeInt), plain(api.TypeBool)}, {plain(api.TypeBool), plain(api.TypeInt)}, {slice(plain(api.TypeInt))}, {slice(slice(plain(api.TypeInt)))}, {slice(structure("T")), {}}} {
				if name != "" || elem != nil {
					types = append(types, api.Type{Kind: kind, Name: name, Elem: elem})
				}
			}
		}
	}
	for i, a := range types {
		for k, b := range types {
			if check.SameType(a, again(b)) != (i == k) {
				t.Errorf("%s, %s: %v", spellType(a), spellType(b), i != k)
			}
		}
	}
	for _, a := range types {
		if len(a.Elem) == 0 {
			b := a
			b.Elem = []api.Type{}
			if !check.SameType(a, b) || !check.SameType(b, a) {
				t.Errorf("%s without elements", spellType(a))
			}
		}
	}
}

// again is a type in memory of its own.
func again(t api.Type) api.Type {
	t.Name = strings.Clone(t.Name)
	var elem []api.Type
	for _, of := range t.Elem {
		elem = append(elem, again(of))
	}
	t.Elem = elem
	return t
}

const signed = "package p; type t struct { a int }; func f() { }; func g(a int, b []t, c [][]string) (t, float64, []bool) { return b[0], 1.5, []bool{} }; func h(a t) t { return a }; func i(a bool, b string) { }; func j() []t { return []t{} }"

func TestSignature(t *testing.T) {
	t.Parallel()
	n := read(t, signed)
	for name, want := range map[string][2][]api.Type{
		"f": {},
		"g": {{plain(api.TypeInt), slice(structure("t")), slice(slice(plain(api.TypeString)))}, {structure("t"), plain(api.TypeFloat), slice(plain(api.TypeBool))}},
		"h": {{structure("t")}, {structure("t")}},
		"i": {{plain(api.TypeBool), plain(api.TypeString)}, nil},
		"j": {nil, {slice(structure("t"))}},
	} {
		for range 2 {
			params, results, ok := check.Signature(n, name)
			if !ok || spellTypes(params) != spellTypes(want[0]) || spellTypes(results) != spellTypes(want[1]) {
				t.Errorf("%s: %v %v %v", name, params, results, ok)
			}
		}
	}
	for _, name := range []string{"", "t", "p", "a", "F", "k", "int", "len", "append", "panic", "float64", "f ", "init", "main"} {
		isUnsigned(t, n, name)
	}
}

func isUnsigned(t *testing.T, n api.Node, name string) {
	t.Helper()
	if params, results, ok := check.Signature(n, name); ok || params != nil || results != nil {
		t.Errorf("%q: %v %v %v", name, params, results, ok)
	}
}

// TestSignaturesOfFaultyFiles: a fault of any time, ahead of the function or behind it.
func TestSignaturesOfFaultyFiles(t *testing.T) {
	t.Parallel()
	const f = "func f(a int) int { return a }"
	if _, _, ok := check.Signature(read(t, "package p; "+f), "f"); !ok {
		t.Error("f")
	}
	isUnsigned(t, read(t, "package main; "+f), "f")
	for _, ones := range faulty {
		for _, one := range ones {
			s := strings.Replace(one.marked, "^", "", 1)
			isUnsigned(t, read(t, "package p; "+f+"; "+s), "f")
			isUnsigned(t, read(t, "package p; "+s+"; "+f), "f")
		}
	}
	isUnsigned(t, read(t, "package p; func f() int { }"), "f")
	isUnsigned(t, read(t, "package p; "+f+"; "+f), "f")
	block := api.Node{Kind: api.NodeBlock}
	isUnsigned(t, block, "f")
	isUnsigned(t, block, "")
	isUnsigned(t, api.Node{}, "")
	isUnsigned(t, read(t, "package p; "+f).Kids[0], "f")
}

// spoil changes all of a type's memory.
func spoil(row []api.Type) {
	for i := range row[:cap(row)] {
		spoil(row[:cap(row)][i].Elem)
		row[:cap(row)][i] = structure("spoilt")
	}
}

// TestAnswersAreNewMemory: R3.
func TestAnswersAreNewMemory(t *testing.T) {
	t.Parallel()
	n := read(t, signed)
	params, results, _ := check.Signature(n, "g")
	want := spellTypes(params) + spellTypes(results)
	for i := range params {
		_, others, _ := check.Signature(n, "g")
		some, _, _ := check.Signature(n, "g")
		spoil(some[i : i+1 : i+1])
		spoil(others[i : i+1 : i+1])
		for k := range params {
			if k != i && (spellType(some[k]) != spellType(params[k]) || spellType(others[k]) != spellType(results[k])) {
				t.Errorf("%d was changed with %d", k, i)
			}
		}
	}
	spoil(params)
	spoil(results)
	params, results, _ = check.Signature(n, "g")
	if spellTypes(params)+spellTypes(results) != want {
		t.Error("answers share their memory")
	}
	text := []byte("name")
	typed := sliceNode(api.Node{Kind: api.NodeType, Text: unsafe.String(&text[0], len(text))})
	one, _ := check.TypeOf(typed)
	other, _ := check.TypeOf(typed)
	text[0] = 'g'
	if one.Elem[0].Name != "name" || unsafe.StringData(one.Elem[0].Name) == unsafe.StringData(other.Elem[0].Name) {
		t.Errorf("%q", one.Elem[0].Name)
	}
	spoil(one.Elem)
	if spellType(other) != spellType(slice(structure("name"))) {
		t.Error(spellType(other))
	}
	params, results, _ = check.Signature(n, "h")
	if unsafe.StringData(params[0].Name) == unsafe.StringData(results[0].Name) || unsafe.StringData(params[0].Name) == unsafe.StringData(n.Kids[3].Kids[0].Kids[0].Kids[0].Text) {
		t.Error("names are shared")
	}
}
