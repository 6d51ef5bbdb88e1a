package expand_test

import (
	"math/rand"
	"reflect"
	"runtime/debug"
	"slices"
	"strconv"
	"strings"
	"testing"

	"gristmill/api"
	"gristmill/expand"
)

// isFaulty asks no more than which fault is told, of texts that have no end, or too much, for being copied or shown.
func isFaulty(t *testing.T, x api.Text, err api.Errno) {
	t.Helper()
	told, fault := expand.Flat(x)
	if fault.Err != err || told.Decls != nil || told.Rules != nil {
		t.Errorf("%v, %d rules, not %v", fault, len(told.Rules), err)
	}
}

// isToldOnce asks of texts that are great.
func isToldOnce(t *testing.T, x, want api.Text) {
	t.Helper()
	if told, fault := expand.Flat(x); fault != (api.Fault{}) || !reflect.DeepEqual(plain(told), plain(want)) {
		t.Errorf("%v, %d rules", fault, len(told.Rules))
	}
}

// TestWordsWithinThemselves: R1; they have no end. What stands ahead of them is met first.
func TestWordsWithinThemselves(t *testing.T) {
	for many := 1; many <= 4; many++ {
		params := []string{"X", "Y", "Z", "U"}[:many]
		f := template(rule("f"), params...)
		for place := range many {
			row := slices.Repeat([]api.Word{word("A")}, many)
			row[place] = word("f", row...)
			isFaulty(t, worded(row, f), api.ErrDeep)
			isFaulty(t, worded([]api.Word{word("f", row...)}, f), api.ErrDeep)
			isFaulty(t, worded([]api.Word{word("A"), word("f", slices.Repeat([]api.Word{word("f", row...)}, many)...)}, f), api.ErrDeep)
			isFaulty(t, worded([]api.Word{word("f", row...)}), api.ErrParams)
			isFaulty(t, worded([]api.Word{word("f", row...)}, template(f, append(params, "V")...)), api.ErrParams)
			isFaulty(t, worded([]api.Word{word("f", slices.Repeat([]api.Word{word("A")}, many)...)}, template(rule("f", alt(row...)), params...)), api.ErrDeep)
			if name := expand.Name(row[place]); name != "" {
				t.Error(short(name))
			}
			if place > 0 {
				row[0] = word("A", word("A"))
				isFaulty(t, worded(row, f), api.ErrParams)
			}
			for i := range row {
				row[i] = word("f", row...)
			}
			isFaulty(t, worded(row, f), api.ErrDeep)
			if name := expand.Name(word("A", row...)); name != "" {
				t.Error(short(name))
			}
		}
	}
}

// TestRingsOfWords: of many words, each in the next one, behind some that are in none.
func TestRingsOfWords(t *testing.T) {
	for _, long := range []int{1, 2, 3, 4, 5, 7, 8, 9, 100, 1000} {
		for _, ahead := range []int{0, 1, 2, 3, 7, 8, 9, 100, 1000} {
			ring := make([][]api.Word, long)
			for i := range ring {
				ring[i] = []api.Word{word("A"), word("p")}
			}
			for i := range ring {
				ring[i][1].Args = ring[(i+1)%long]
			}
			w := word("p", ring[0]...)
			for range ahead {
				w = word("p", word("A"), w)
			}
			isFaulty(t, worded([]api.Word{w}, two()), api.ErrDeep)
			if name := expand.Name(w); name != "" {
				t.Error(short(name))
			}
			ring[long-1][1].Args = ring[0][:1]
			isFaulty(t, worded([]api.Word{w}, two()), api.ErrParams)
			if name := expand.Name(w); name != bookName(w) {
				t.Error(short(name))
			}
		}
	}
}

// TestRowsThatBeginAlike: lists in one another that begin at one place have an end all the same.
func TestRowsThatBeginAlike(t *testing.T) {
	row := make([]api.Word, 8)
	for i := range row {
		row[i] = word("A")
	}
	f := make([]api.Rule, len(row))
	for i := range row {
		params := []string{"X", "Y", "Z", "U", "V", "W", "S", "T"}[:i+1]
		f[i] = template(rule("f"+strconv.Itoa(i+1), alt(word("X"))), params...)
	}
	for i := 1; i < 6; i++ {
		row[i] = word("f"+strconv.Itoa(i), row[:i]...)
	}
	for _, x := range []api.Text{worded(row, f...), worded([]api.Word{word("f6", row[:6]...)}, f...)} {
		want, fault := bookFlat(x)
		if fault != (api.Fault{}) {
			t.Fatal(fault)
		}
		isToldOnce(t, x, want)
	}
	if name, want := expand.Name(word("f8", row...)), bookName(word("f8", row...)); name != want {
		t.Errorf("%s, not %s", short(name), short(want))
	}
}

// TestDeepWords: R1; calls within calls for each of them would have no room in the stack.
func TestDeepWords(t *testing.T) {
	defer debug.SetMaxStack(debug.SetMaxStack(1 << 23))
	const many = 1 << 20
	w := deep(many)
	isFaulty(t, worded([]api.Word{w}, one()), api.ErrDeep)
	isFaulty(t, worded([]api.Word{w}, one(), one()), api.ErrTwice)
	isFaulty(t, worded([]api.Word{w}), api.ErrParams)
	isFaulty(t, worded([]api.Word{word("A", w)}, one()), api.ErrParams)
	isFaulty(t, worded([]api.Word{word("p", w, word("A", w))}, one(), two()), api.ErrDeep)
	isFaulty(t, worded([]api.Word{word("p", word("A", w), w)}, one(), two()), api.ErrParams)
	isFaulty(t, worded([]api.Word{word("f", word("A"))}, template(rule("f", alt(w)), "X")), api.ErrDeep)
	if name := expand.Name(w); name != strings.Repeat("f(", many-1)+"A"+strings.Repeat(")", many-1) {
		t.Error(short(name))
	}
	bad := word("f", word("A"), word("A"))
	for range many {
		bad = word("f", bad)
	}
	isFaulty(t, worded([]api.Word{bad}, one()), api.ErrParams)
}

// TestGreatTexts: R1.
func TestGreatTexts(t *testing.T) {
	const many = 1 << 16
	words := slices.Repeat([]api.Word{word("A"), word("f", word("f", word("B")))}, many)
	told := slices.Repeat([]api.Word{word("A"), word("f(f(B))")}, many)
	isToldOnce(t, worded(words, one()), ruled(rule("s", alt(told...)), rule("f(B)", alt(word("B"))), rule("f(f(B))", alt(word("f(B)")))))
	alts := slices.Repeat([]api.Alt{alt(words[:2]...), {}}, many)
	isToldOnce(t, ruled(one(), rule("s", alts...)), ruled(rule("s", slices.Repeat([]api.Alt{alt(told[:2]...), {}}, many)...), rule("f(B)", alt(word("B"))), rule("f(f(B))", alt(word("f(B)")))))
	var names []string
	var templates []api.Rule
	for i := range many {
		names = append(names, "N"+strconv.Itoa(i))
		templates = append(templates, template(rule("N"+strconv.Itoa(i), alt(word("X"))), "X"))
	}
	decls := slices.Repeat([]api.Decl{{Kind: "type", Names: []string{"A"}}, {Kind: "left"}}, many)
	isToldOnce(t, api.Text{Decls: decls}, api.Text{Decls: decls})
	decl := []api.Decl{{Kind: "type", Names: names}}
	isToldOnce(t, api.Text{Decls: decl}, api.Text{Decls: decl})
	isToldOnce(t, api.Text{Decls: decl, Rules: templates}, api.Text{Decls: []api.Decl{{Kind: "type"}}})
	isFaulty(t, ruled(append(templates, templates[many-1])...), api.ErrTwice)
	isFaulty(t, ruled(template(rule("f"), append(names, names[many-1])...)), api.ErrTwice)
	isToldOnce(t, ruled(template(rule("f"), names...)), api.Text{})
	isFaulty(t, ruled(rules(many)...), api.ErrMany)
	isFaulty(t, worded(each(0, many), one()), api.ErrMany)
	args := slices.Repeat([]api.Word{word("A")}, many)
	isFaulty(t, worded([]api.Word{word("f", args...)}, template(rule("f"), names...)), api.ErrLong)
	isFaulty(t, worded([]api.Word{word("f", args...)}, one()), api.ErrParams)
	nameless := slices.Repeat([]api.Word{{}}, 1000)
	isFaulty(t, worded([]api.Word{word("f", nameless...)}, template(rule("f"), names[:1000]...)), api.ErrLong)
	long := word(strings.Repeat("n", 1<<20))
	isFaulty(t, worded([]api.Word{word("f", slices.Repeat([]api.Word{long}, many)...)}, template(rule("f"), names...)), api.ErrLong)
	isToldOnce(t, worded(slices.Repeat([]api.Word{long}, 1<<10)), worded(slices.Repeat([]api.Word{long}, 1<<10)))
}

// shared is a word in which the same ones lie twice, each so deep.
func shared(n int, name string) api.Word {
	w := word(name)
	for range n {
		w = word("p", w, w)
	}
	return w
}

// TestSharedWords: R1; lists may lie in a word in many places.
func TestSharedWords(t *testing.T) {
	for _, n := range []int{1, 2, 7} {
		isTaken(t, worded([]api.Word{shared(n, "A")}, two()), n+1)
	}
	for _, n := range []int{8, 9, 60, 1000} {
		isFaulty(t, worded([]api.Word{shared(n, "A")}, two()), api.ErrDeep)
		isFaulty(t, worded([]api.Word{shared(n, strings.Repeat("n", 1000))}, two()), api.ErrLong)
		isFaulty(t, worded([]api.Word{shared(n, "p")}, two()), api.ErrParams)
		isFaulty(t, worded([]api.Word{shared(n, "A")}, one()), api.ErrParams)
	}
	w := shared(20, "A")
	if name := expand.Name(w); name != bookName(w) {
		t.Error(short(name))
	}
}

// TestNamesThatSayTooMuch: R1; a few lists may say more than any memory holds.
func TestNamesThatSayTooMuch(t *testing.T) {
	t.Parallel()
	long := strings.Repeat("n", 1<<20)
	for _, w := range []api.Word{shared(60, long), shared(1<<10, long), shared(11, long), word("f", slices.Repeat([]api.Word{word(long)}, 1<<11)...)} {
		if name := expand.Name(w); name != "" {
			t.Error(short(name))
		}
	}
	w := word("f", slices.Repeat([]api.Word{word(long)}, 1<<8)...)
	if name := expand.Name(w); len(name) != 1<<28+1<<8+2 {
		t.Error(len(name))
	}
}

// TestAnyTexts: R1; texts of anything.
func TestAnyTexts(t *testing.T) {
	r := rand.New(rand.NewSource(6))
	text := func() string { return []string{"", "type", "a", "b", "a(b)", ",", "\xff\x00"}[r.Intn(7)] }
	texts := func() []string {
		var out []string
		for r.Intn(3) == 0 {
			out = append(out, text())
		}
		return out
	}
	var words func(deep int) []api.Word
	words = func(deep int) []api.Word {
		var out []api.Word
		for r.Intn(deep) == 0 {
			out = append(out, api.Word{Name: text(), Args: words(deep + 1), At: r.Int() - r.Int()})
		}
		return out
	}
	met := map[api.Errno]int{}
	for range 20000 {
		var x api.Text
		for r.Intn(2) == 0 {
			x.Decls = append(x.Decls, api.Decl{Kind: text(), Type: text(), Names: texts(), At: r.Int() - r.Int()})
		}
		for r.Intn(3) > 0 {
			y := api.Rule{Name: text(), Params: texts(), At: r.Int() - r.Int()}
			for r.Intn(2) == 0 {
				y.Alts = append(y.Alts, api.Alt{Words: words(2), Prec: text(), Has: r.Intn(2) == 0, Action: text(), Where: r.Int() - r.Int(), At: r.Int() - r.Int()})
			}
			x.Rules = append(x.Rules, y)
		}
		_, fault := byTheBook(t, x)
		met[fault.Err]++
	}
	for _, err := range []api.Errno{api.OK, api.ErrTwice, api.ErrParams} {
		if met[err] < 1000 {
			t.Errorf("%v: only %d", err, met[err])
		}
	}
}
