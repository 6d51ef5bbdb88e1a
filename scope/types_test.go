package scope_test

import (
	"strconv"
	"strings"
	"testing"
	"unsafe"

	"gristmill/api"
	"gristmill/scope"
)

// ordinary are types that a program may have.
func ordinary() []api.Type {
	var out []api.Type
	for _, of := range []api.Type{whole(), truth(), text(), pointed(), structure("T"), structure("U"), structure(strings.Repeat("a", api.MaxName))} {
		out = append(out, of, slice(of), slice(slice(of)), slice(slice(slice(of))))
	}
	return out
}

// types are of every kind, such too as are no program's.
func types() []api.Type {
	out := ordinary()
	for kind := range 256 {
		out = append(out, plain(api.TypeKind(kind)))
	}
	deep := structure("T")
	for range 100 {
		deep = slice(deep)
	}
	return append(out, deep,
		structure(""), structure("\xff \x00"), structure(strings.Repeat("a", 1<<16)),
		api.Type{Kind: api.TypeInt, Name: "T", Elem: []api.Type{whole()}},
		api.Type{Kind: api.TypeSlice},
		api.Type{Kind: api.TypeSlice, Elem: []api.Type{}},
		api.Type{Kind: api.TypeSlice, Elem: []api.Type{{}}},
		api.Type{Kind: api.TypeSlice, Name: "T", Elem: []api.Type{whole(), slice(truth()), slice(slice(text()))}},
		api.Type{Kind: api.TypeStruct, Name: "T", Elem: []api.Type{slice(structure("U")), {Elem: []api.Type{whole(), {Elem: []api.Type{}}, pointed()}}}},
	)
}

func TestTypesAreToldAsTheyWereDeclared(t *testing.T) {
	s := opened(1)
	var names []string
	for i, of := range types() {
		name := "n" + strconv.Itoa(i)
		declares(t, s, of, name)
		names = append(names, name)
	}
	s.Open()
	for i, of := range types() {
		for range 2 {
			looks(t, s, names[i], of)
		}
	}
	closes(t, s)
	for i, of := range types() {
		looks(t, s, names[i], of)
		if i%2 == 0 {
			uses(t, s, names[i], of)
		}
	}
	var unused []string
	for i := range names {
		if i%2 == 1 {
			unused = append(unused, names[i])
		}
	}
	closes(t, s, unused...)
}

// roomy is a copy of a type with room behind its lists in which something lies.
func roomy(t api.Type) api.Type {
	out := api.Type{Kind: t.Kind, Name: t.Name}
	for _, of := range t.Elem {
		out.Elem = append(out.Elem, roomy(of))
	}
	out.Elem = append(out.Elem, structure("room"), slice(structure("room")))[:len(out.Elem)]
	return out
}

// filled tells whether the room behind a type's lists is as roomy left it.
func filled(t api.Type) bool {
	for _, of := range t.Elem {
		if !filled(of) {
			return false
		}
	}
	room := t.Elem[len(t.Elem) : len(t.Elem)+2]
	return alike(room[0], structure("room")) && alike(room[1], slice(structure("room")))
}

// spoil changes all of a type's memory, and what lies behind its lists.
func spoil(t api.Type) {
	all := t.Elem[:cap(t.Elem)]
	for i := range all {
		spoil(all[i])
		all[i] = api.Type{Kind: 99, Name: "spoilt", Elem: []api.Type{{}, {}}}
	}
}

// TestArgumentsStayAsTheyAre: R3.
func TestArgumentsStayAsTheyAre(t *testing.T) {
	for _, of := range types() {
		s, given := opened(1), roomy(of)
		declares(t, s, given, "a")
		refuses(t, s, "a", given, api.ErrTwice)
		for range 2 {
			got, _ := s.Look("a")
			spoil(got)
			got, _ = s.Use("a")
			spoil(got)
		}
		if !alike(given, of) || !filled(given) {
			t.Fatalf("%s was changed", spell(of))
		}
		refuses(t, scope.New(), "a", given, api.ErrNone)
		refuses(t, nil, "a", given, api.ErrNil)
		if !alike(given, of) || !filled(given) {
			t.Fatalf("%s was changed", spell(of))
		}
	}
}

// TestArgumentsAreNotKept: R3.
func TestArgumentsAreNotKept(t *testing.T) {
	for _, of := range types() {
		s, given := opened(1), roomy(of)
		declares(t, s, given, "a")
		spoil(given)
		looks(t, s, "a", of)
		uses(t, s, "a", of)
		s.Open()
		declares(t, s, given, "a")
		spoil(given)
		closes(t, s, "a")
		looks(t, s, "a", of)
	}
}

// TestAnswersAreNewMemory: R3.
func TestAnswersAreNewMemory(t *testing.T) {
	for _, of := range types() {
		s := opened(1)
		declares(t, s, of, "a")
		kept, _ := s.Look("a")
		for range 2 {
			got, _ := s.Look("a")
			spoil(got)
			looks(t, s, "a", of)
			got, _ = s.Use("a")
			spoil(got)
			uses(t, s, "a", of)
		}
		if !alike(kept, of) {
			t.Fatalf("%s was changed by another answer", spell(of))
		}
	}
}

// TestListsOfOneAnswerAreApart gives lists that share their memory.
func TestListsOfOneAnswerAreApart(t *testing.T) {
	of := slice(slice(whole()))
	s := opened(1)
	declares(t, s, api.Type{Elem: []api.Type{of, of, slice(of)}}, "a")
	for i := range 3 {
		want := []api.Type{of, of, slice(of)}
		got, _ := s.Look("a")
		spoil(got.Elem[i])
		for k := range want {
			if k != i && !alike(got.Elem[k], want[k]) {
				t.Fatalf("%d was changed with %d: %s", k, i, spell(got))
			}
		}
	}
}

func TestNamesOfClosedBlocksAreNewMemory(t *testing.T) {
	s := opened(1)
	declares(t, s, whole(), "a", "b", "c")
	s.Open()
	declares(t, s, truth(), "d", "e", "f")
	uses(t, s, "e", truth())
	got, _ := s.Close()
	s.Open()
	declares(t, s, text(), "g", "h")
	all := got[:cap(got)]
	for i := range all {
		all[i] = "spoilt"
	}
	closes(t, s, "g", "h")
	uses(t, s, "b", whole())
	closes(t, s, "a", "c")
	if got[0] != "spoilt" {
		t.Fatalf("%q was changed", got)
	}
}

// TestTextsAreNotKept: R3; texts that were given may change when nobody may see it any more.
func TestTextsAreNotKept(t *testing.T) {
	name, kind := []byte("name"), []byte("kind")
	s := opened(1)
	declares(t, s, slice(structure(unsafe.String(&kind[0], len(kind)))), unsafe.String(&name[0], len(name)))
	name[0], kind[0] = 'g', 'f'
	lacks(t, s, "game")
	looks(t, s, "name", slice(structure("kind")))
	first, _ := s.Look("name")
	second, _ := s.Use("name")
	if unsafe.StringData(first.Elem[0].Name) == unsafe.StringData(second.Elem[0].Name) {
		t.Error("two answers share a name")
	}
	declares(t, s, whole(), "other")
	uses(t, s, "other", whole())
	closes(t, s)
}

// TestTypesThatNeverEnd: R1. What is told of them never ends either.
func TestTypesThatNeverEnd(t *testing.T) {
	knot := []api.Type{{Kind: api.TypeSlice}, {Kind: api.TypeSlice, Name: "T"}, whole()}
	knot[0].Elem, knot[1].Elem = knot[:1], knot
	ring := []api.Type{{Kind: api.TypeSlice}}
	for range 1000 {
		ring = []api.Type{{Kind: api.TypeSlice, Elem: ring}}
	}
	last := &ring[0]
	for last.Elem != nil {
		last = &last.Elem[0]
	}
	last.Elem = ring
	for _, never := range []api.Type{knot[0], knot[1], {Kind: api.TypeSlice, Elem: knot}, slice(slice(knot[1])), ring[0], slice(ring[0])} {
		s := opened(1)
		declares(t, s, never, "a")
		refuses(t, s, "a", never, api.ErrTwice)
		for _, tell := range []func(string) (api.Type, bool){s.Look, s.Use, s.Look} {
			got, ok := tell("a")
			if !ok {
				t.Fatal("nothing is told")
			}
			goesOn(t, got, never)
			spoilOn(got)
			goesOn(t, never, never)
		}
		closes(t, s)
		refuses(t, s, "a", never, api.ErrNone)
		refuses(t, nil, "a", never, api.ErrNil)
	}
}

// goesOn follows a type, along some ways, further than what was given has types.
func goesOn(t *testing.T, got, want api.Type) {
	t.Helper()
	for turns := range 3 {
		g, w := got, want
		for step := 0; len(w.Elem) > 0 && step < 5000; step++ {
			if g.Kind != api.TypeSlice || g.Name != w.Name || len(g.Elem) != len(w.Elem) {
				t.Fatalf("%d: %d %q of %d, not %q of %d", step, g.Kind, g.Name, len(g.Elem), w.Name, len(w.Elem))
			}
			i := step * turns % 2 % len(w.Elem)
			if turns == 2 {
				i = len(w.Elem) - 1
			}
			g, w = g.Elem[i], w.Elem[i]
		}
	}
}

// spoilOn changes what goesOn follows.
func spoilOn(of api.Type) {
	for range 5000 {
		next := of.Elem
		next[0].Kind, next[0].Name = 99, "spoilt"
		of = next[0]
	}
}

func TestDeepTypes(t *testing.T) {
	const many = 1 << 20
	deep := whole()
	for range many {
		deep = slice(deep)
	}
	s := opened(2)
	declares(t, s, deep, "a")
	got, ok := s.Use("a")
	for i := range many {
		if !ok || got.Kind != api.TypeSlice || len(got.Elem) != 1 {
			t.Fatalf("%d: %v, %v", i, got.Kind, ok)
		}
		got = got.Elem[0]
	}
	if !alike(got, whole()) {
		t.Fatalf("%s", spell(got))
	}
	closes(t, s)
}

func TestWideTypes(t *testing.T) {
	const many = 1 << 18
	wide := api.Type{Kind: api.TypeSlice, Elem: make([]api.Type, many)}
	for i := range wide.Elem {
		wide.Elem[i] = slice(structure(strconv.Itoa(i)))
	}
	s := opened(1)
	declares(t, s, wide, "a")
	looks(t, s, "a", wide)
	closes(t, s, "a")
}
