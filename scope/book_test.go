package scope_test

import (
	"math/rand"
	"slices"
	"strconv"
	"testing"

	"gristmill/api"
	"gristmill/scope"
)

// entry is a declaration of the book, with the number of the block that it stands in.
type entry struct {
	name  string
	of    api.Type
	block int
	used  bool
}

// book is the document's words as one row of declarations, which is read from its end on.
type book struct {
	rows []entry
	deep int
}

func (b *book) find(name string) *entry {
	for i := len(b.rows) - 1; i >= 0; i-- {
		if b.rows[i].name == name {
			return &b.rows[i]
		}
	}
	return nil
}

func (b *book) declare(name string, of api.Type) api.Errno {
	if b.deep == 0 {
		return api.ErrNone
	}
	if e := b.find(name); e != nil && e.block == b.deep {
		return api.ErrTwice
	}
	b.rows = append(b.rows, entry{name, of, b.deep, false})
	return api.OK
}

func (b *book) close() ([]string, api.Errno) {
	if b.deep == 0 {
		return nil, api.ErrNone
	}
	var unused []string
	first := slices.IndexFunc(b.rows, func(e entry) bool { return e.block == b.deep })
	if first >= 0 {
		for _, e := range b.rows[first:] {
			if !e.used {
				unused = append(unused, e.name)
			}
		}
		b.rows = b.rows[:first]
	}
	b.deep--
	return unused, api.OK
}

func (b *book) tell(name string, used bool) (api.Type, bool) {
	e := b.find(name)
	if e == nil {
		return api.Type{}, false
	}
	e.used = e.used || used
	return e.of, true
}

// pair is a scope and the book that it is held against.
type pair struct {
	*scope.Scope
	book
	said string
}

func newPair() *pair { return &pair{Scope: scope.New()} }

func (p *pair) open() {
	p.said += " Open"
	p.Open()
	p.deep++
}

func (p *pair) closes(t *testing.T) {
	t.Helper()
	p.said += " Close"
	got, e := p.Close()
	want, wanted := p.close()
	if e != wanted || !slices.Equal(got, want) {
		t.Fatalf("%s: %q, %v; wanted %q, %v", p.said, got, e, want, wanted)
	}
}

func (p *pair) declares(t *testing.T, name string, of api.Type) {
	t.Helper()
	p.said += " Declare " + name + " " + spell(of)
	if e, wanted := p.Declare(name, of), p.declare(name, of); e != wanted {
		t.Fatalf("%s: %v; wanted %v", p.said, e, wanted)
	}
}

func (p *pair) tells(t *testing.T, name string, used bool) {
	t.Helper()
	call, word := p.Look, " Look "
	if used {
		call, word = p.Use, " Use "
	}
	p.said += word + name
	got, ok := call(name)
	want, wanted := p.tell(name, used)
	if ok != wanted || !alike(got, want) {
		t.Fatalf("%s: %s, %v; wanted %s, %v", p.said, spell(got), ok, spell(want), wanted)
	}
}

// ends holds what is left of both against each other.
func (p *pair) ends(t *testing.T, names ...string) {
	t.Helper()
	for more := true; more; {
		if p.Deep() != p.deep {
			t.Fatalf("%s: %d deep; wanted %d", p.said, p.Deep(), p.deep)
		}
		for _, name := range names {
			p.tells(t, name, false)
		}
		more = p.deep > 0
		p.closes(t)
	}
}

// step is one of these calls, by its number.
func (p *pair) step(t *testing.T, n int) {
	t.Helper()
	switch n {
	case 0:
		p.open()
	case 1:
		p.closes(t)
	case 2:
		p.declares(t, "a", whole())
	case 3:
		p.declares(t, "b", slice(truth()))
	case 4:
		p.declares(t, "a", structure("T"))
	case 5:
		p.tells(t, "a", true)
	case 6:
		p.tells(t, "b", true)
	}
}

func TestShortRowsOfCallsByTheBook(t *testing.T) {
	const steps, long = 7, 6
	rows := 1
	for range long {
		rows *= steps
	}
	for row := range rows {
		p := newPair()
		for range long {
			p.step(t, row%steps)
			row /= steps
		}
		p.ends(t, "a", "b")
	}
}

func TestMixedCallsByTheBook(t *testing.T) {
	chance := rand.New(rand.NewSource(6))
	for range 300 {
		many := 1 + chance.Intn(20)
		var names []string
		for i := range many {
			names = append(names, "n"+strconv.Itoa(i))
		}
		mixed(t, chance, names)
	}
}

func mixed(t *testing.T, chance *rand.Rand, names []string) {
	t.Helper()
	p, kinds := newPair(), ordinary()
	for range 500 {
		name := names[chance.Intn(len(names))]
		switch n := chance.Intn(20); {
		case n < 3:
			p.open()
		case n < 5:
			p.closes(t)
		case n < 12:
			p.declares(t, name, kinds[chance.Intn(len(kinds))])
		case n < 16:
			p.tells(t, name, false)
		default:
			p.tells(t, name, true)
		}
		if p.Deep() != p.deep {
			t.Fatalf("%s: %d deep; wanted %d", p.said, p.Deep(), p.deep)
		}
	}
	p.ends(t, names...)
}

// TestAlike: R4; what was asked of one scope changes nothing in the next one.
func TestAlike(t *testing.T) {
	for range 100 {
		mixed(t, rand.New(rand.NewSource(60)), []string{"a", "b", "c", "d"})
	}
}
