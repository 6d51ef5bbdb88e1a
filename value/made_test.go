package value_test

import (
	"math/rand"
	"slices"
	"strconv"
	"testing"

	"gristmill/api"
	"gristmill/check"
	"gristmill/value"
)

// maker makes files, types and values up, alike each time.
type maker struct {
	*rand.Rand
}

func (m maker) pick(from ...string) string { return from[m.Intn(len(from))] }

func (m maker) name() string { return m.pick("A", "B", "C", "D", "E", "Nowhere") }

// typeNode is most often one that is a type.
func (m maker) typeNode() api.Node {
	n := typed(m.pick("int", "bool", "string", "float64", m.name(), m.name()))
	for m.Intn(3) == 0 {
		n = sliceNode(n)
	}
	if m.Intn(60) == 0 {
		n.Text += m.pick(" ", "7", ".")
	}
	return n
}

func (m maker) field() api.Node {
	f := field("a", m.typeNode())
	switch m.Intn(60) {
	case 0:
		f.Kids = nil
	case 1:
		f.Kids = append(f.Kids, m.typeNode())
	}
	return f
}

func (m maker) file() api.Node {
	var kids []api.Node
	for range 3 + m.Intn(5) {
		s := structNode(m.name())
		for range m.Intn(4) {
			s.Kids = append(s.Kids, m.field())
		}
		if m.Intn(20) == 0 {
			s.Kind = api.NodeFunc
		}
		kids = append(kids, s)
	}
	return fileNode(kids...)
}

func (m maker) oftype() api.Type {
	of := plain(api.TypeKind(1 + m.Intn(4)))
	if m.Intn(2) == 0 {
		of = named(m.name())
	}
	for m.Intn(3) == 0 {
		of = slice(of)
	}
	switch m.Intn(40) {
	case 0:
		of.Kind = api.TypeKind(m.Intn(9))
	case 1:
		of.Name = m.name()
	case 2:
		of.Elem = append(of.Elem, m.oftype())
	}
	return of
}

// value is most often one of the type, if that has any.
func (m maker) value(file api.Node, t api.Type, deep int) api.Value {
	v := api.Value{Kind: t.Kind, Name: t.Name}
	switch t.Kind {
	case api.TypeInt:
		v.Num = m.Int63() >> m.Intn(64)
	case api.TypeBool:
		v.Num = int64(m.Intn(2))
	case api.TypeString:
		v.Text = m.pick("", "a", "\n", "b c")
	case api.TypeFloat:
		v.Bits = m.Uint64()
		if m.Intn(3) == 0 {
			v.Bits = 0x7ff8000000000001
		}
	case api.TypeSlice:
		if len(t.Elem) == 1 && deep > 0 {
			for range m.Intn(4) {
				v.Parts = append(v.Parts, m.value(file, t.Elem[0], deep-1))
			}
		}
	case api.TypeStruct:
		s, _ := bookStruct(file, t.Name)
		types, _ := bookFields(s)
		for _, of := range types[:min(len(types), deep*len(types))] {
			v.Parts = append(v.Parts, m.value(file, of, deep-1))
		}
	}
	return v
}

// turned changes one thing of a value, or of what lies within it.
func (m maker) turned(v api.Value) api.Value {
	v = anew(v)
	at := &v
	for len(at.Parts) > 0 && m.Intn(3) > 0 {
		at = &at.Parts[m.Intn(len(at.Parts))]
	}
	switch m.Intn(9) {
	case 0:
		at.Kind = api.TypeKind(m.Intn(8))
	case 1:
		at.Num += int64(m.Intn(3)) - 1
	case 2:
		at.Text += "a"
	case 3:
		at.Bits ^= 1
	case 4:
		at.Name = m.name()
	case 5:
		at.Parts = append(slices.Clone(at.Parts), anInt(1))
	case 6:
		at.Parts = at.Parts[:max(0, len(at.Parts)-1)]
	case 7:
		slices.Reverse(at.Parts)
	case 8:
		*at = api.Value{Kind: at.Kind, Name: at.Name}
	}
	return v
}

// told counts what was asked for, so that what is made up is known to be of all sorts.
type told struct{ known, zero, one, none, same, other int }

// TestMadeUp holds files, types and values that are made up against what the document says.
func TestMadeUp(t *testing.T) {
	var n told
	m := maker{rand.New(rand.NewSource(1))}
	for range 2000 {
		file := m.file()
		for range 10 {
			of, other := m.oftype(), m.oftype()
			m.asks(t, &n, file, of, other)
			if t.Failed() {
				t.Fatalf("%+v, %+v, %+v", file, of, other)
			}
		}
	}
	if n.known < 5000 || n.zero < 5000 || n.one < 10000 || n.none < 20000 || n.same < 20000 || n.other < 20000 {
		t.Errorf("%+v", n)
	}
}

func (m maker) asks(t *testing.T, n *told, file api.Node, of, other api.Type) {
	t.Helper()
	if bookKnown(file, of) {
		n.known++
	}
	zero, has := bookZero(file, of)
	if has {
		n.zero++
		isZero(t, file, of, zero)
	} else {
		hasNoZero(t, file, of)
	}
	v := m.value(file, of, 5)
	w := m.turned(v)
	for _, x := range []api.Value{v, w, aSlice(v, w), zero} {
		for _, of := range []api.Type{of, other, slice(of)} {
			if bookIs(file, x, of) {
				n.one++
				isOne(t, file, x, of)
			} else {
				n.none++
				isNone(t, file, x, of)
			}
		}
		hasText(t, x, bookText(x))
		for _, y := range []api.Value{v, w, zero} {
			areSame(t, x, y, alike(x, y))
			if alike(x, y) {
				n.same++
			} else {
				n.other++
			}
		}
		if c := value.Copy(x); !alike(c, x) {
			t.Errorf("%s: the copy %s", spell(x), spell(c))
		}
	}
}

// some are values of a type, so many levels deep.
func some(file api.Node, t api.Type, deep int) []api.Value {
	switch t.Kind {
	case api.TypeInt:
		return []api.Value{anInt(0), anInt(1), anInt(-1), anInt(11)}
	case api.TypeBool:
		return []api.Value{aBool(0), aBool(1)}
	case api.TypeString:
		return []api.Value{aString(""), aString(" "), aString("\""), aString("\\\""), aString("\" \""), aString("0 1"), aString("]")}
	case api.TypeFloat:
		return []api.Value{aFloat(0), aFloat(1 << 63), aFloat(1), aFloat(0x10), aFloat(0x7ff8000000000001)}
	case api.TypeSlice:
		return rowsOf(file, t.Elem[0], deep)
	}
	s, _ := bookStruct(file, t.Name)
	types, _ := bookFields(s)
	rows := [][]api.Value{nil}
	for _, of := range types {
		var longer [][]api.Value
		for _, row := range rows {
			for _, part := range some(file, of, deep-1) {
				longer = append(longer, append(slices.Clone(row), part))
			}
		}
		rows = longer
	}
	var out []api.Value
	for _, row := range rows {
		out = append(out, aStruct(t.Name, row...))
	}
	return out
}

// rowsOf are slices of none, of one and of two.
func rowsOf(file api.Node, of api.Type, deep int) []api.Value {
	out := []api.Value{aSlice()}
	if deep <= 0 {
		return out
	}
	parts := some(file, of, deep-1)
	for i, a := range parts {
		out = append(out, aSlice(a))
		for k := 0; k < len(parts); k += 1 + len(parts)/8 {
			out = append(out, aSlice(a, parts[(i+k)%len(parts)]))
		}
	}
	return out
}

// TestWhatFollows: P8.4.
func TestWhatFollows(t *testing.T) {
	file := read(t, "type A struct { a int; b []A }; type B struct { a []string; b []bool }; type C struct { }; type D struct { c C; d []C; e float64 }")
	var types []api.Type
	for _, of := range []api.Type{whole(), truth(), text(), pointed(), named("A"), named("B"), named("C"), named("D")} {
		types = append(types, of, slice(of), slice(slice(of)))
	}
	for _, of := range types {
		zero, ok := value.Zero(file, of)
		if !ok || !value.Is(file, zero, of) {
			t.Errorf("the zero value of %s: %s, %v", spellType(of), spell(zero), ok)
		}
		byText := map[string]api.Value{}
		all := some(file, of, 3)
		for _, v := range append(all, zero) {
			isOne(t, file, v, of)
			was, there := byText[value.Text(v)]
			if there && !value.Same(was, v) {
				t.Errorf("%s: of %s and %s", value.Text(v), spell(was), spell(v))
			}
			byText[value.Text(v)] = v
		}
		if len(byText) < min(len(all), 2) && of.Name != "C" {
			t.Errorf("%d of %s", len(all), spellType(of))
		}
		for _, other := range types {
			if check.SameType(of, other) {
				continue
			}
			for _, v := range all {
				if !hasEmptySlice(v) {
					isNone(t, file, v, other)
				}
			}
		}
	}
}

func hasEmptySlice(v api.Value) bool {
	return v.Kind == api.TypeSlice && len(v.Parts) == 0 || slices.ContainsFunc(v.Parts, hasEmptySlice)
}

// TestAnswersStay: R4.
func TestAnswersStay(t *testing.T) {
	file := given(t)
	for i := range 200 {
		name := "All"
		if i%2 == 1 {
			name = "Tree" + strconv.Itoa(i)
		}
		v, ok := value.Zero(file, named(name))
		if ok != (name == "All") || value.Text(v) != map[bool]string{true: `All{0 false "" 0x0000000000000000 [] One{0} None{}}`, false: "?"}[ok] {
			t.Fatalf("%s: %s, %v", name, value.Text(v), ok)
		}
	}
}
