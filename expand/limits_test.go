package expand_test

import (
	"slices"
	"strconv"
	"strings"
	"testing"

	"gristmill/api"
)

func one() api.Rule { return template(rule("f", alt(word("X"))), "X") }

func two() api.Rule { return template(rule("p", alt(word("X"), word("Y"))), "X", "Y") }

// at gives a word a place.
func at(place int, w api.Word) api.Word {
	w.At = place
	return w
}

// deep is a word that is so deep.
func deep(n int) api.Word {
	w := word("A")
	for range n - 1 {
		w = word("f", w)
	}
	return w
}

func isTaken(t *testing.T, x api.Text, rules int) {
	t.Helper()
	if told, fault := byTheBook(t, x); fault.Err != api.OK || len(told.Rules) != rules {
		t.Errorf("%v, %d rules, not %d, of %s", fault, len(told.Rules), rules, short(shown(x)))
	}
}

func isRefused(t *testing.T, x api.Text, err api.Errno, place int) {
	t.Helper()
	if _, fault := byTheBook(t, x); fault != (api.Fault{Err: err, At: place}) {
		t.Errorf("%v, not %v at %d, of %s", fault, err, place, short(shown(x)))
	}
}

// TestEightDeep: a word that is wanted is at most 8 deep, with what its Params stand for.
func TestEightDeep(t *testing.T) {
	for n := 2; n <= 12; n++ {
		w := deep(n)
		w.At = 50
		if n <= 8 {
			isTaken(t, worded([]api.Word{w}, one()), n)
			isTaken(t, worded([]api.Word{word("A"), w}, one(), two()), n)
			continue
		}
		place := 0
		if n == 9 {
			place = 50
		}
		isRefused(t, worded([]api.Word{w}, one()), api.ErrDeep, place)
	}
	// Any of the Args counts, the deepest one.
	isTaken(t, worded([]api.Word{word("p", deep(7), word("A")), word("p", word("A"), deep(7)), word("p", deep(7), deep(7))}, one(), two()), 10)
	for _, w := range []api.Word{word("p", deep(8), word("A")), word("p", word("A"), deep(8)), word("p", deep(7), deep(8)), word("p", deep(8), deep(7))} {
		isRefused(t, worded([]api.Word{at(3, w)}, one(), two()), api.ErrDeep, 3)
	}
	// So deep with what a Param stands for, though the word that stands there is not.
	for n := 1; n <= 8; n++ {
		g := template(rule("g", alt(at(4, word("f", word("X"))))), "X")
		x := worded([]api.Word{word("g", deep(n))}, one(), g)
		if n <= 7 {
			isTaken(t, x, n+2)
		} else {
			isRefused(t, x, api.ErrDeep, 0)
		}
		h := template(rule("h", alt(at(4, word("f", at(5, word("f", word("Y"))))))), "X", "Y")
		x = worded([]api.Word{word("h", word("B"), deep(n))}, one(), h)
		switch {
		case n <= 6:
			isTaken(t, x, n+3)
		case n == 7:
			isRefused(t, x, api.ErrDeep, 4)
		default:
			isRefused(t, x, api.ErrDeep, 0)
		}
	}
	// A Param that stands alone is as deep as it was.
	isTaken(t, worded([]api.Word{deep(8)}, one()), 8)
}

// TestThousandBytes: the text of a word that is wanted.
func TestThousandBytes(t *testing.T) {
	name := func(n int) api.Word { return word(strings.Repeat("n", n)) }
	for more := range 2 {
		for _, w := range []api.Word{
			word("f", name(997+more)),
			word("p", name(996-400+more), name(400)),
			word("p", name(1), name(995+more)),
			word("f", word("f", name(994+more))),
			word("p", word("f", name(500)), word("f", name(490+more))),
			word("p", word("p", name(100), name(200)), word("f", name(689+more))),
		} {
			x := worded([]api.Word{at(9, w)}, one(), two())
			if long := len(bookName(w)); long != 1000+more {
				t.Fatal(long)
			}
			if more == 0 {
				isTaken(t, x, 2+len(inner(w)))
			} else {
				isRefused(t, x, api.ErrLong, 9)
			}
		}
	}
	// Long by its own Name, or by how many Args it has.
	for more := range 2 {
		long := template(rule(strings.Repeat("r", 990+more), alt()), "X", "Y", "Z")
		w := at(2, word(long.Name, word("AB"), word("CD"), word("EF")))
		many := template(rule("m"))
		var args []api.Word
		for i := range 498 {
			many.Params = append(many.Params, "P"+strconv.Itoa(i))
			args = append(args, word("a"))
		}
		args[0].Name = strings.Repeat("b", 3+more)
		v := at(3, word("m", args...))
		if more == 0 {
			isTaken(t, worded([]api.Word{w, v}, long, many), 3)
			continue
		}
		isRefused(t, worded([]api.Word{w, v}, long, many), api.ErrLong, 2)
		isRefused(t, worded([]api.Word{v, w}, long, many), api.ErrLong, 3)
	}
	// With what Params stand for.
	for more := range 2 {
		g := template(rule("g", alt(word("X"), at(6, word("p", word("X"), word("X"))))), "X")
		w := word("g", name(498))
		if more == 0 {
			isTaken(t, worded([]api.Word{w}, g, two()), 3)
		} else {
			g.Alts[0].Words[1].Args[1] = word("f", word("X"))
			isRefused(t, worded([]api.Word{w}, g, one(), two()), api.ErrLong, 6)
		}
	}
	// Bytes, not signs.
	isTaken(t, worded([]api.Word{word("f", word(strings.Repeat("\u00e9", 498)))}, one()), 2)
	isRefused(t, worded([]api.Word{word("f", word(strings.Repeat("\u00e9", 499)))}, one()), api.ErrLong, 0)
}

// inner are the words within one that are wanted ahead of it.
func inner(w api.Word) []api.Word {
	var out []api.Word
	for _, a := range w.Args {
		if len(a.Args) > 0 {
			out = append(append(out, inner(a)...), a)
		}
	}
	return out
}

// TestNoOtherLengths: what is not wanted may be as long as it is.
func TestNoOtherLengths(t *testing.T) {
	long := strings.Repeat("n", 5000)
	x := worded([]api.Word{word(long), word(long + "A")}, rule(long, alt(word(long))), template(rule(long+"f", alt(word(long), word(long, word(long)))), long))
	x.Rules[0].Alts[0].Prec, x.Rules[0].Alts[0].Action = long, long
	x.Decls = []api.Decl{{Kind: long, Type: long, Names: []string{long}}, {Kind: "type", Type: long, Names: []string{long, long + "f"}}}
	isTaken(t, x, 2)
}

// TestDeepAheadOfLong: one that is too deep and too long.
func TestDeepAheadOfLong(t *testing.T) {
	w := word(strings.Repeat("n", 979))
	for range 7 {
		w = word("f", w)
	}
	isTaken(t, worded([]api.Word{w}, one()), 8)
	isRefused(t, worded([]api.Word{at(1, word("f", w))}, one()), api.ErrDeep, 1)
	isRefused(t, worded([]api.Word{at(1, word("p", w, w))}, one(), two()), api.ErrDeep, 1)
	isRefused(t, worded([]api.Word{at(1, word("p", w.Args[0], w.Args[0]))}, one(), two()), api.ErrLong, 1)
}

// each are words of a template f, each with another Arg.
func each(from, to int) []api.Word {
	var out []api.Word
	for i := from; i < to; i++ {
		out = append(out, word("f", word("A"+strconv.Itoa(i))))
	}
	return out
}

// rules are so many without Params.
func rules(many int) []api.Rule {
	var out []api.Rule
	for i := range many {
		out = append(out, rule("r"+strconv.Itoa(i), alt(word("A"))))
	}
	return out
}

// TestManyRules: 128 are told, and one more is a fault; rules without Params and wanted ones together.
func TestManyRules(t *testing.T) {
	for _, n := range []int{1, 2, 64, 126, 127, 128, 129, 130, 200} {
		isTold := func(x api.Text, rules int) {
			t.Helper()
			if rules <= 128 {
				isTaken(t, x, rules)
			} else {
				isRefused(t, x, api.ErrMany, 0)
			}
		}
		isTold(ruled(rules(n)...), n)
		isTold(ruled(append(rules(n), one(), two())...), n)
		isTold(worded(each(0, n), one()), n+1)
		isTold(worded(append(each(0, n), each(0, n)...), one()), n+1)
		isTold(worded(each(0, n), append(rules(n/2), one())...), n/2+n+1)
		isTold(ruled(append([]api.Rule{one(), rule("s", alt(each(0, 1)...))}, rules(n)...)...), n+2)
		isTold(ruled(append(rules(n), rule("s", alt(each(0, 1)...)), one())...), n+2)
		// Wanted by what is wanted.
		isTold(worded([]api.Word{word("g", word("A"))}, one(), template(rule("g", alt(each(0, n)...)), "X")), n+2)
	}
	// Templates are none of those that are told, however many there are.
	x := worded(each(0, 3), one())
	for i := range 300 {
		x.Rules = append(x.Rules, template(rule("t"+strconv.Itoa(i), alt(word("X"))), "X"))
	}
	isTaken(t, x, 4)
}

// TestFaultsBesideMany: rules are told one behind the other, so that a fault of one of the first 128 is met ahead of there being too many, all that stands in later ones behind it.
func TestFaultsBesideMany(t *testing.T) {
	fault := at(5, word("A", word("B")))
	for _, many := range []int{128, 129, 300} {
		for _, i := range []int{0, 1, 64, 126, 127, 128, 129, 299} {
			if i >= many {
				break
			}
			x := ruled(rules(many)...)
			x.Rules[i].Alts[0].Words = append(x.Rules[i].Alts[0].Words, fault)
			if i < 128 {
				isRefused(t, x, api.ErrParams, 5)
			} else {
				isRefused(t, x, api.ErrMany, 0)
			}
			x.Rules = append(x.Rules, api.Rule{Name: "r0", At: 6})
			isRefused(t, x, api.ErrTwice, 6)
		}
	}
	isRefused(t, worded(append(each(0, 300), fault), one()), api.ErrParams, 5)
	isRefused(t, worded(append([]api.Word{fault}, each(0, 300)...), one()), api.ErrParams, 5)
	// What wants its own fault when its turn comes.
	g := template(rule("g", alt(word("X"), fault)), "X")
	for _, ahead := range []int{0, 1, 125, 126, 127, 128, 200} {
		x := worded(slices.Concat(each(0, ahead), []api.Word{word("g", word("A"))}, each(200, 400)), one(), g)
		if ahead < 127 {
			isRefused(t, x, api.ErrParams, 5)
		} else {
			isRefused(t, x, api.ErrMany, 0)
		}
		x.Rules = append(x.Rules, api.Rule{Name: "h", Params: []string{"X", "X"}, At: 6})
		isRefused(t, x, api.ErrTwice, 6)
	}
}

// TestMoreAndMore: templates that want one more each time end with a fault.
func TestMoreAndMore(t *testing.T) {
	f := template(rule("f", alt(at(1, word("f", at(2, word("f", at(3, word("X")))))))), "X")
	isRefused(t, worded([]api.Word{word("f", word("A"))}, f), api.ErrDeep, 1)
	p := template(rule("p", alt(at(4, word("p", word("Y"), word("p", word("X"), word("X")))))), "X", "Y")
	isRefused(t, worded([]api.Word{word("p", word("A"), word("B"))}, p), api.ErrDeep, 4)
	q := template(rule("q", alt(word("q", word("Y"), word("Z"), word("A")), word("q", word("Y"), word("Z"), word("B")))), "X", "Y", "Z")
	isTaken(t, worded([]api.Word{word("q", word("A"), word("A"), word("A"))}, q), 9)
	r := template(rule("r"), "A", "B", "C", "D", "E", "F", "G", "H")
	for _, last := range []string{"I", "J"} {
		words := []api.Word{}
		for _, name := range r.Params[1:] {
			words = append(words, word(name))
		}
		r.Alts = append(r.Alts, alt(word("r", append(words, word(last))...)))
	}
	isRefused(t, worded([]api.Word{word("r", slices.Repeat([]api.Word{word("I")}, 8)...)}, r), api.ErrMany, 0)
	isTaken(t, worded([]api.Word{word("q", slices.Repeat([]api.Word{word("I")}, 3)...)}, q), 16)
}
