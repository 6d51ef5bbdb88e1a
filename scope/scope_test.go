package scope_test

import (
	"strconv"
	"strings"
	"testing"

	"gristmill/api"
	"gristmill/scope"
)

// P6.1.
func TestNew(t *testing.T) {
	s := scope.New()
	if s == nil {
		t.Fatal("New answers nil")
	}
	if s == scope.New() {
		t.Error("New answers one scope twice")
	}
	for range 3 {
		isDeep(t, s, 0)
		failsToClose(t, s, api.ErrNone)
		refuses(t, s, "a", whole(), api.ErrNone)
		refuses(t, s, "", api.Type{}, api.ErrNone)
		lacks(t, s, "a", "", "int")
	}
}

func TestOpenAndClose(t *testing.T) {
	s := scope.New()
	for deep := range 5 {
		isDeep(t, s, deep)
		s.Open()
	}
	for deep := range 5 {
		isDeep(t, s, 5-deep)
		closes(t, s)
	}
	for range 2 {
		isDeep(t, s, 0)
		failsToClose(t, s, api.ErrNone)
		refuses(t, s, "a", whole(), api.ErrNone)
	}
	s.Open()
	isDeep(t, s, 1)
	declares(t, s, whole(), "a")
	closes(t, s, "a")
	isDeep(t, s, 0)
}

func TestNoBlockIsOpenAnyMore(t *testing.T) {
	s := opened(1)
	declares(t, s, whole(), "a", "b")
	uses(t, s, "a", whole())
	closes(t, s, "b")
	lacks(t, s, "a", "b")
	failsToClose(t, s, api.ErrNone)
	refuses(t, s, "a", whole(), api.ErrNone)
	s.Open()
	lacks(t, s, "a", "b")
	declares(t, s, truth(), "b", "a")
	looks(t, s, "a", truth())
	closes(t, s, "b", "a")
}

// noScopes are scopes that New did not answer.
func noScopes() map[string]*scope.Scope {
	empty, full := *scope.New(), *opened(2)
	made := opened(1)
	made.Declare("a", whole())
	named := *made
	return map[string]*scope.Scope{"nil": nil, "zero": {}, "copied": &empty, "copied with blocks": &full, "copied with names": &named}
}

// TestScopesOfNobody: R5.
func TestScopesOfNobody(t *testing.T) {
	for which, s := range noScopes() {
		t.Run(which, func(t *testing.T) {
			for range 3 {
				isDeep(t, s, 0)
				failsToClose(t, s, api.ErrNil)
				refuses(t, s, "a", whole(), api.ErrNil)
				refuses(t, s, "b", slice(whole()), api.ErrNil)
				lacks(t, s, "a", "b", "")
				s.Open()
			}
		})
	}
}

func TestCopiesLeaveAScopeAsItIs(t *testing.T) {
	s := opened(2)
	declares(t, s, whole(), "a", "b")
	c := *s
	c.Open()
	refuses(t, &c, "c", whole(), api.ErrNil)
	lacks(t, &c, "a")
	failsToClose(t, &c, api.ErrNil)
	isDeep(t, s, 2)
	lacks(t, s, "c")
	closes(t, s, "a", "b")
}

func TestUnused(t *testing.T) {
	names := []string{"d", "b", "e", "a", "c"}
	for used := range 1 << len(names) {
		s := opened(1)
		declares(t, s, whole(), names...)
		var unused []string
		for i, name := range names {
			if used>>i&1 == 1 {
				uses(t, s, name, whole())
			} else {
				unused = append(unused, name)
			}
		}
		closes(t, s, unused...)
	}
}

func TestUsedInAnyOrderAndOften(t *testing.T) {
	s := opened(1)
	declares(t, s, whole(), "a")
	uses(t, s, "a", whole())
	declares(t, s, truth(), "c", "b")
	uses(t, s, "a", whole())
	uses(t, s, "b", truth())
	uses(t, s, "a", whole())
	declares(t, s, text(), "e", "d")
	uses(t, s, "e", text())
	uses(t, s, "b", truth())
	closes(t, s, "c", "d")
}

// P6.2.
func TestTwice(t *testing.T) {
	s := opened(1)
	declares(t, s, whole(), "a", "b", "c")
	uses(t, s, "b", whole())
	for _, of := range []api.Type{truth(), whole(), slice(text()), {}} {
		for _, name := range []string{"c", "b", "a"} {
			refuses(t, s, name, of, api.ErrTwice)
			looks(t, s, name, whole())
		}
	}
	declares(t, s, truth(), "d")
	refuses(t, s, "d", whole(), api.ErrTwice)
	closes(t, s, "a", "c", "d")
}

func TestOnceInEachBlock(t *testing.T) {
	s := opened(1)
	declares(t, s, whole(), "a", "b")
	s.Open()
	declares(t, s, truth(), "b", "a")
	refuses(t, s, "a", text(), api.ErrTwice)
	s.Open()
	declares(t, s, text(), "a")
	refuses(t, s, "a", text(), api.ErrTwice)
	looks(t, s, "a", text())
	looks(t, s, "b", truth())
	closes(t, s, "a")
	looks(t, s, "a", truth())
	refuses(t, s, "b", text(), api.ErrTwice)
	closes(t, s, "b", "a")
	refuses(t, s, "a", whole(), api.ErrTwice)
	looks(t, s, "b", whole())
	closes(t, s, "a", "b")
}

// TestBlocksBesideOneAnother has names again that a closed block had.
func TestBlocksBesideOneAnother(t *testing.T) {
	s := opened(1)
	for _, of := range []api.Type{whole(), truth(), slice(whole())} {
		s.Open()
		lacks(t, s, "a", "b")
		declares(t, s, of, "b", "a")
		uses(t, s, "b", of)
		closes(t, s, "a")
	}
	lacks(t, s, "a", "b")
	declares(t, s, text(), "a")
	closes(t, s, "a")
}

func TestLookUsesNothing(t *testing.T) {
	s := opened(1)
	declares(t, s, whole(), "a", "b")
	for range 3 {
		looks(t, s, "a", whole())
		looks(t, s, "b", whole())
	}
	s.Open()
	looks(t, s, "a", whole())
	uses(t, s, "b", whole())
	looks(t, s, "b", whole())
	closes(t, s)
	closes(t, s, "a")
}

func TestTellingDeclaresNothing(t *testing.T) {
	s := opened(2)
	lacks(t, s, "a", "b")
	declares(t, s, whole(), "a")
	lacks(t, s, "b")
	closes(t, s, "a")
	lacks(t, s, "a", "b")
	closes(t, s)
}

func TestUsedFurtherIn(t *testing.T) {
	s := opened(1)
	declares(t, s, whole(), "a", "b", "c")
	s.Open()
	declares(t, s, truth(), "d", "e")
	s.Open()
	s.Open()
	uses(t, s, "b", whole())
	uses(t, s, "d", truth())
	closes(t, s)
	looks(t, s, "c", whole())
	closes(t, s)
	uses(t, s, "a", whole())
	closes(t, s, "e")
	closes(t, s, "c")
}

// P6.3.
func TestUsedAheadOfBeingHidden(t *testing.T) {
	s := opened(1)
	declares(t, s, whole(), "a")
	s.Open()
	uses(t, s, "a", whole())
	declares(t, s, truth(), "a")
	looks(t, s, "a", truth())
	closes(t, s, "a")
	looks(t, s, "a", whole())
	closes(t, s)
}

func TestUsedBehindBeingHidden(t *testing.T) {
	s := opened(1)
	declares(t, s, whole(), "a", "b")
	s.Open()
	declares(t, s, truth(), "b", "a")
	uses(t, s, "a", truth())
	closes(t, s, "b")
	uses(t, s, "b", whole())
	closes(t, s, "a")
}

func TestHiddenAndUsedNowhere(t *testing.T) {
	s := opened(1)
	declares(t, s, whole(), "a")
	s.Open()
	declares(t, s, truth(), "a")
	uses(t, s, "a", truth())
	s.Open()
	uses(t, s, "a", truth())
	declares(t, s, text(), "a")
	closes(t, s, "a")
	closes(t, s)
	closes(t, s, "a")
}

func TestExample(t *testing.T) {
	s := scope.New()
	s.Open()
	declares(t, s, whole(), "a")
	s.Open()
	declares(t, s, truth(), "a")
	uses(t, s, "a", truth())
	closes(t, s)
	looks(t, s, "a", whole())
	closes(t, s, "a")
	refuses(t, s, "b", whole(), api.ErrNone)
}

// TestNames has names that no program may have, too: a scope asks nothing of them.
func TestNames(t *testing.T) {
	var names []string
	for c := range 256 {
		names = append(names, string([]byte{byte(c)}))
	}
	names = append(names, "", "A", "aa", "a b", "int", "_", "break", "a\x00", "\u00e9", "e\u0301", "\xff\xfe", strings.Repeat("a", api.MaxName), strings.Repeat("a", api.MaxName+1), strings.Repeat("a", 1<<16))
	s := opened(1)
	distinct := map[string]bool{}
	var unused []string
	for i, name := range names {
		of := structure(strconv.Itoa(i))
		if distinct[name] {
			refuses(t, s, name, of, api.ErrTwice)
			continue
		}
		lacks(t, s, name)
		declares(t, s, of, name)
		looks(t, s, name, of)
		distinct[name] = true
		unused = append(unused, name)
	}
	closes(t, s, unused...)
}

func TestManyNames(t *testing.T) {
	const many = 100000
	s := opened(1)
	s.Open()
	var unused []string
	for i := range many {
		name := "n" + strconv.Itoa(i*7919%many)
		declares(t, s, structure(name), name)
		if i%3 == 0 {
			uses(t, s, name, structure(name))
		} else {
			unused = append(unused, name)
		}
	}
	for i := range many {
		name := "n" + strconv.Itoa(i)
		looks(t, s, name, structure(name))
		refuses(t, s, name, whole(), api.ErrTwice)
	}
	closes(t, s, unused...)
	closes(t, s)
}

func TestManyBlocks(t *testing.T) {
	const many = 2000
	s := scope.New()
	for i := range many {
		s.Open()
		declares(t, s, structure("T"+strconv.Itoa(i)), "a", "b"+strconv.Itoa(i))
		isDeep(t, s, i+1)
	}
	for i := range many {
		uses(t, s, "b"+strconv.Itoa(i), structure("T"+strconv.Itoa(i)))
	}
	for i := many - 1; i >= 0; i-- {
		looks(t, s, "a", structure("T"+strconv.Itoa(i)))
		lacks(t, s, "b"+strconv.Itoa(i+1))
		if i%2 == 0 {
			uses(t, s, "a", structure("T"+strconv.Itoa(i)))
			closes(t, s)
		} else {
			closes(t, s, "a")
		}
	}
	failsToClose(t, s, api.ErrNone)
}

func TestVeryManyBlocks(t *testing.T) {
	const many = 1 << 20
	s := opened(1)
	declares(t, s, whole(), "a")
	for range many {
		s.Open()
	}
	isDeep(t, s, many+1)
	uses(t, s, "a", whole())
	for range many {
		closes(t, s)
	}
	closes(t, s)
	isDeep(t, s, 0)
}

func TestScopesAreApart(t *testing.T) {
	one, other, last := opened(1), opened(2), scope.New()
	declares(t, one, whole(), "a", "b")
	declares(t, other, truth(), "b", "c")
	isDeep(t, one, 1)
	isDeep(t, other, 2)
	isDeep(t, last, 0)
	lacks(t, one, "c")
	lacks(t, other, "a")
	lacks(t, last, "a", "b", "c")
	uses(t, one, "b", whole())
	looks(t, other, "b", truth())
	refuses(t, last, "a", whole(), api.ErrNone)
	closes(t, other, "b", "c")
	lacks(t, other, "b")
	looks(t, one, "b", whole())
	last.Open()
	declares(t, last, text(), "b")
	closes(t, one, "a")
	looks(t, last, "b", text())
	failsToClose(t, one, api.ErrNone)
	closes(t, other)
	closes(t, last, "b")
}
