package write_test

import (
	"math/rand"
	"runtime/debug"
	"slices"
	"strings"
	"testing"

	"gristmill/api"
	"gristmill/write"
)

// TestWordsWithinThemselves: R1; they have no end.
func TestWordsWithinThemselves(t *testing.T) {
	for many := 1; many <= 4; many++ {
		for at := range many {
			row := slices.Repeat([]api.Word{word("a")}, many)
			row[at].Args = row
			areRefused(t, worded(row...), worded(row[at]), worded(word("b", row...)), worded(nested(60), row[at]))
			for i := range row {
				row[i].Args = row
			}
			areRefused(t, worded(row...), worded(word("b", row...)))
		}
	}
	ring := make([][]api.Word, 100)
	for i := range ring {
		ring[i] = []api.Word{word("a"), word("b"), word("c")}
	}
	for i := range ring {
		ring[i][1].Args = ring[(i+1)%len(ring)]
		ring[i][2].Args = ring[(i+7)%len(ring)]
	}
	areRefused(t, worded(ring[0]...), worded(ring[50]...))
}

// areRefused asks of texts that have no end, or too much of it, and so can't be copied, nor shown.
func areRefused(t *testing.T, texts ...api.Text) {
	t.Helper()
	for _, x := range texts {
		if s, e := write.Text(x); e != api.ErrShape || s != "" {
			t.Errorf("%v %s", e, short(s))
		}
	}
}

// TestDeepWords: R1; calls within calls for each of them would have no room in the stack.
func TestDeepWords(t *testing.T) {
	defer debug.SetMaxStack(debug.SetMaxStack(1 << 23))
	deep := nested(1 << 20)
	areRefused(t, worded(deep), worded(word("a"), deep), worded(word("a", word("b"), deep)), altered(alt(), act(alt(deep), "")))
}

// TestGreatTexts: R1.
func TestGreatTexts(t *testing.T) {
	const many = 1 << 17
	decls := slices.Repeat([]api.Decl{decl("token", "int", "A", "B")}, many)
	isWrittenOnce(t, declared(decls...), strings.Repeat("%token <int> A B;\n", many)+"%%\n")
	names := slices.Repeat([]string{strings.Repeat("N", 40), "a"}, many)
	isWrittenOnce(t, declared(decl("left", "", names...)), "%left"+strings.Repeat(" "+strings.Repeat("N", 40)+" a", many)+";\n%%\n")
	rules := slices.Repeat([]api.Rule{{Name: "e", Params: []string{"X", "Y"}, Alts: []api.Alt{{}, act(alt(), "a")}}}, many)
	isWrittenOnce(t, ruled(rules...), "%%\n"+strings.Repeat("e(X, Y):\n\t| {a}\n\t;\n", many))
	isWrittenOnce(t, altered(make([]api.Alt, many)...), "%%\ne:"+strings.Repeat("\n\t|", many-1)+"\n\t;\n")
	words := slices.Repeat([]api.Word{nested(9), word("a")}, many/8)
	row := strings.Repeat(nestedText(9)+" a ", many/8)
	isWrittenOnce(t, worded(words...), "%%\ne: "+row[:len(row)-1]+"\n\t;\n")
	open := strings.Repeat("{", many) + strings.Repeat("}", many)
	isWrittenOnce(t, acted(open), "%%\ne: {"+open+"}\n\t;\n")
	words[len(words)-1].Name = "-"
	areRefused(t, worded(words...), acted(open+"}"), acted("{"+open), acted(strings.Repeat("\"", 2*many+1)))
	different := make([]string, many)
	for i := range different {
		for n := i; n > 0; n /= 26 {
			different[i] += string(rune('a' + n%26))
		}
		different[i] += "_"
	}
	isWrittenOnce(t, declared(decl("left", "", different...)), "%left "+strings.Join(different, " ")+";\n%%\n")
}

// shared is words each of which has the same ones in it twice, so deep.
func shared(deep int, name string, innermost ...api.Word) api.Word {
	w := word(name, innermost...)
	for range deep {
		w = word(name, w, w)
	}
	return w
}

// TestSharedWords: lists may lie in a text in many places.
func TestSharedWords(t *testing.T) {
	for _, deep := range []int{1, 2, 10, 16} {
		want := "a"
		for range deep {
			want = "a(" + want + ", " + want + ")"
		}
		isWrittenOnce(t, worded(shared(deep, "a")), "%%\ne: "+want+"\n\t;\n")
		areRefused(t, worded(shared(deep, "a", word(""))), worded(shared(deep, "a", nested(61-deep))))
	}
}

// TestTextsThatSayTooMuch: R1; few lists may say more than any memory holds.
func TestTextsThatSayTooMuch(t *testing.T) {
	t.Parallel()
	long := strings.Repeat("N", 40)
	areRefused(t, worded(shared(60, long)), worded(shared(61, long)), worded(shared(1<<16, long)))
	names := slices.Repeat([]string{long}, 1<<15)
	areRefused(t, declared(slices.Repeat([]api.Decl{decl("left", "", names...)}, 1<<15)...))
	areRefused(t, altered(slices.Repeat([]api.Alt{act(alt(), "\""+strings.Repeat("a", 1<<20)+"\"")}, 1<<12)...))
	areRefused(t, ruled(slices.Repeat([]api.Rule{rule("e", make([]api.Alt, 1<<20)...)}, 1<<12)...))
}

// TestAnyTexts: R1; texts of anything.
func TestAnyTexts(t *testing.T) {
	m := maker{rand.New(rand.NewSource(7))}
	text := func() string {
		if m.Intn(2) == 0 {
			return m.one("", "a", "token", "type")
		}
		b := make([]byte, m.Intn(6))
		m.Read(b)
		return string(b)
	}
	rows := func() []string {
		var out []string
		for m.Intn(3) > 0 {
			out = append(out, text())
		}
		return out
	}
	some := 0
	for range 100000 {
		var x api.Text
		if m.Intn(2) == 0 {
			x.Decls = append(x.Decls, api.Decl{Kind: text(), Type: text(), Names: rows(), At: m.Int()})
		}
		if m.Intn(2) == 0 {
			a := api.Alt{Words: asWords(rows()), Prec: text(), Has: m.Intn(2) == 0, Action: text(), Where: -m.Int(), At: m.Int()}
			x.Rules = append(x.Rules, api.Rule{Name: text(), Params: rows(), Alts: []api.Alt{a}, At: -m.Int()})
		}
		if mayBe(x) {
			some++
			isWrittenOnce(t, x, bookText(x))
		} else {
			isRefusedOnce(t, x)
		}
	}
	if some < 1000 {
		t.Errorf("only %d may be written", some)
	}
}
