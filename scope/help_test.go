package scope_test

import (
	"slices"
	"strconv"
	"testing"

	"gristmill/api"
	"gristmill/scope"
)

func plain(kind api.TypeKind) api.Type { return api.Type{Kind: kind} }

func whole() api.Type   { return plain(api.TypeInt) }
func truth() api.Type   { return plain(api.TypeBool) }
func text() api.Type    { return plain(api.TypeString) }
func pointed() api.Type { return plain(api.TypeFloat) }

func structure(name string) api.Type { return api.Type{Kind: api.TypeStruct, Name: name} }

func slice(of api.Type) api.Type {
	return api.Type{Kind: api.TypeSlice, Elem: []api.Type{of}}
}

// alike holds types against each other all through; lists without elements and nil ones are one.
func alike(a, b api.Type) bool {
	return a.Kind == b.Kind && a.Name == b.Name && slices.EqualFunc(a.Elem, b.Elem, alike)
}

// spell is as much of a type as a report needs.
func spell(t api.Type) string { return spellTo(t, 6) }

func spellTo(t api.Type, deep int) string {
	s := strconv.Itoa(int(t.Kind)) + t.Name[:min(len(t.Name), api.MaxName)]
	for i, of := range t.Elem {
		if deep == 0 || i == 4 {
			return s + ".."
		}
		s += "(" + spellTo(of, deep-1) + ")"
	}
	return s
}

// opened is a scope with so many open blocks.
func opened(many int) *scope.Scope {
	s := scope.New()
	for range many {
		s.Open()
	}
	return s
}

func isDeep(t *testing.T, s *scope.Scope, want int) {
	t.Helper()
	if got := s.Deep(); got != want {
		t.Fatalf("%d deep, not %d", got, want)
	}
}

func declares(t *testing.T, s *scope.Scope, of api.Type, names ...string) {
	t.Helper()
	for _, name := range names {
		if e := s.Declare(name, of); e != api.OK {
			t.Fatalf("Declare(%.100q, %s): %v", name, spell(of), e)
		}
	}
}

func refuses(t *testing.T, s *scope.Scope, name string, of api.Type, want api.Errno) {
	t.Helper()
	if e := s.Declare(name, of); e != want {
		t.Fatalf("Declare(%.100q, %s): %v, not %v", name, spell(of), e, want)
	}
}

func told(t *testing.T, call, name string, got api.Type, ok bool, want api.Type) {
	t.Helper()
	if !ok || !alike(got, want) {
		t.Fatalf("%s(%.100q): %s, %v, not %s", call, name, spell(got), ok, spell(want))
	}
}

func looks(t *testing.T, s *scope.Scope, name string, want api.Type) {
	t.Helper()
	got, ok := s.Look(name)
	told(t, "Look", name, got, ok, want)
}

func uses(t *testing.T, s *scope.Scope, name string, want api.Type) {
	t.Helper()
	got, ok := s.Use(name)
	told(t, "Use", name, got, ok, want)
}

// lacks asks for names that no open block has.
func lacks(t *testing.T, s *scope.Scope, names ...string) {
	t.Helper()
	for _, name := range names {
		if got, ok := s.Look(name); ok || got.Kind != 0 || got.Name != "" || got.Elem != nil {
			t.Fatalf("Look(%.100q): %s, %v", name, spell(got), ok)
		}
		if got, ok := s.Use(name); ok || got.Kind != 0 || got.Name != "" || got.Elem != nil {
			t.Fatalf("Use(%.100q): %s, %v", name, spell(got), ok)
		}
	}
}

// closes closes a block of which these names were not used.
func closes(t *testing.T, s *scope.Scope, want ...string) {
	t.Helper()
	if got, e := s.Close(); e != api.OK || !slices.Equal(got, want) {
		t.Fatalf("Close: %.100q, %v, not %.100q", got, e, want)
	}
}

func failsToClose(t *testing.T, s *scope.Scope, want api.Errno) {
	t.Helper()
	if got, e := s.Close(); e != want || len(got) != 0 {
		t.Fatalf("Close: %.100q, %v, not %v", got, e, want)
	}
}
