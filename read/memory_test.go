package read_test

import (
	"reflect"
	"slices"
	"strings"
	"testing"
	"unsafe"

	"gristmill/api"
	"gristmill/read"
)

// span is where a list lies, with the room behind it.
type span struct{ from, to uintptr }

func spanOf[T any](list []T) span {
	from := uintptr(unsafe.Pointer(unsafe.SliceData(list)))
	return span{from, from + uintptr(cap(list))*unsafe.Sizeof(*new(T))}
}

// spans are where all lists of a text lie.
func spans(t api.Text) []span {
	out := []span{spanOf(t.Decls), spanOf(t.Rules)}
	for _, d := range t.Decls {
		out = append(out, spanOf(d.Names))
	}
	for _, r := range t.Rules {
		out = append(out, spanOf(r.Params), spanOf(r.Alts))
		for _, a := range r.Alts {
			out = append(out, spansOfWords(a.Words)...)
		}
	}
	return out
}

func spansOfWords(words []api.Word) []span {
	out := []span{spanOf(words)}
	for _, w := range words {
		out = append(out, spansOfWords(w.Args)...)
	}
	return out
}

// areApart wants of lists that no two of them lie in one place.
func areApart(t *testing.T, s string, of []span) {
	t.Helper()
	of = slices.DeleteFunc(of, func(s span) bool { return s.from == s.to })
	slices.SortFunc(of, func(a, b span) int { return int(a.from) - int(b.from) })
	for i := 1; i < len(of); i++ {
		if of[i].from < of[i-1].to {
			t.Errorf("%s: two lists share memory", short(s))
			return
		}
	}
}

// spoil writes over all that lies in a text, and in the room behind its lists.
func spoil(t api.Text) {
	for _, d := range t.Decls {
		fill(d.Names, "?")
	}
	for _, r := range t.Rules {
		fill(r.Params, "?")
		for _, a := range r.Alts {
			spoilWords(a.Words)
		}
		fill(r.Alts, api.Alt{Prec: "?", Has: true, Action: "?", At: -1})
	}
	fill(t.Decls, api.Decl{Kind: "?", Type: "?", At: -1})
	fill(t.Rules, api.Rule{Name: "?", At: -1})
}

func spoilWords(words []api.Word) {
	for _, w := range words {
		spoilWords(w.Args)
	}
	fill(words, api.Word{Name: "?", At: -1})
}

func fill[T any](list []T, with T) {
	list = list[:cap(list)]
	for i := range list {
		list[i] = with
	}
}

func memorable() []string {
	return append(full(),
		"%token <int> N; %% l(X): X | l(X) N %prec N { $$ = $2 }; s: ;",
		"%token "+strings.Repeat("A ", 100)+";"+strings.Repeat("%left B C;", 100)+"%%",
		"%%"+strings.Repeat("e(X,Y):a(b(c,d,e),f)b(c)|%prec P{a}|;", 100),
		"%%e:"+nested(60)+" "+nested(60)+"|a("+strings.Repeat("b(c),", 100)+"d);",
	)
}

func TestTextsAreNewMemory(t *testing.T) {
	for _, s := range memorable() {
		first, fault := read.Text(s)
		second, _ := read.Text(s)
		want := spell(first, fault)
		areApart(t, s, append(spans(first), spans(second)...))
		spoil(first)
		if got := spell(second, fault); got != want {
			t.Errorf("%s: %.400s; wanted %.400s", short(s), got, want)
		}
		wants(t, s, want)
	}
}

// TestTextsKeepNoSource writes over the bytes of a source that is told already.
func TestTextsKeepNoSource(t *testing.T) {
	for _, s := range memorable() {
		b := []byte(s)
		text, fault := read.Text(unsafe.String(&b[0], len(b)))
		if string(b) != s {
			t.Errorf("%s changed: %q", short(s), b)
		}
		for i := range b {
			b[i] = '?'
		}
		wants(t, s, spell(text, fault))
	}
}

func TestFaultsTellNoText(t *testing.T) {
	texts := "%token A; %% e: A | {} ; "
	for s, want := range map[string]api.Fault{
		texts + ";":                        {Err: api.ErrSyntax, At: 25},
		texts + "f: A":                     {Err: api.ErrSyntax, At: 29},
		texts + "f: " + nested(61):         {Err: api.ErrDeep, At: 150},
		texts + "=":                        {Err: api.ErrByte, At: 25},
		texts + "{":                        {Err: api.ErrToken, At: 25},
		texts + strings.Repeat(" ", 1<<16): {Err: api.ErrLong},
		"%token A B":                       {Err: api.ErrSyntax, At: 10},
		"":                                 {Err: api.ErrSyntax},
	} {
		if got, fault := read.Text(s); fault != want || !reflect.DeepEqual(got, api.Text{}) {
			t.Errorf("%s: %s; wanted %v", short(s), spell(got, fault), want)
		}
	}
}

// TestWhatIsNotThereIsNothing: what a text does not have is told as zero values.
func TestWhatIsNotThereIsNothing(t *testing.T) {
	got, fault := read.Text("%left A;%%e:a|;")
	want := api.Text{
		Decls: []api.Decl{{Kind: "left", Names: []string{"A"}}},
		Rules: []api.Rule{{Name: "e", At: 10, Alts: []api.Alt{{Words: []api.Word{{Name: "a", At: 12}}, At: 12}, {At: 14}}}},
	}
	if fault != (api.Fault{}) || !reflect.DeepEqual(got, want) {
		t.Errorf("%s; wanted %s", spell(got, fault), spell(want, fault))
	}
}

// TestTextsAlikeEachTime has faults between, which leave nothing behind.
func TestTextsAlikeEachTime(t *testing.T) {
	for _, s := range memorable() {
		text, fault := read.Text(s)
		want := spell(text, fault)
		for _, other := range []string{"", ";", "#", "%% e: a(", "%% e: " + nested(61) + ";", "%% e: " + strings.Repeat("a(", 60), s + ";", s + "{", s} {
			text, fault := read.Text(other)
			told := spell(text, fault)
			wants(t, s, want)
			wants(t, other, told)
		}
	}
}
