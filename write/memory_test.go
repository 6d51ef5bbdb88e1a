package write_test

import (
	"slices"
	"strings"
	"testing"
	"unsafe"

	"gristmill/api"
	"gristmill/write"
)

// clone copies a list with the room behind it.
func clone[T any](from []T, one func(x T) T) []T {
	if from == nil {
		return nil
	}
	out := make([]T, cap(from))
	for i, x := range from[:cap(from)] {
		out[i] = one(x)
	}
	return out[:len(from)]
}

func cloned(t api.Text) api.Text {
	return api.Text{
		Decls: clone(t.Decls, func(d api.Decl) api.Decl {
			d.Names = clone(d.Names, same)
			return d
		}),
		Rules: clone(t.Rules, func(r api.Rule) api.Rule {
			r.Params = clone(r.Params, same)
			r.Alts = clone(r.Alts, func(a api.Alt) api.Alt {
				a.Words = clonedWords(a.Words)
				return a
			})
			return r
		}),
	}
}

func clonedWords(words []api.Word) []api.Word {
	return clone(words, func(w api.Word) api.Word {
		w.Args = clonedWords(w.Args)
		return w
	})
}

// alikeLists holds lists against each other, with the room behind them.
func alikeLists[T any](a, b []T, one func(x, y T) bool) bool {
	if (a == nil) != (b == nil) || len(a) != len(b) || cap(a) != cap(b) {
		return false
	}
	a, b = a[:cap(a)], b[:cap(b)]
	for i := range a {
		if !one(a[i], b[i]) {
			return false
		}
	}
	return true
}

func alikeNames(a, b []string) bool {
	return alikeLists(a, b, func(x, y string) bool { return x == y })
}

func alike(a, b api.Text) bool {
	return alikeLists(a.Decls, b.Decls, func(x, y api.Decl) bool {
		return x.Kind == y.Kind && x.Type == y.Type && x.At == y.At && alikeNames(x.Names, y.Names)
	}) && alikeLists(a.Rules, b.Rules, func(x, y api.Rule) bool {
		return x.Name == y.Name && x.At == y.At && alikeNames(x.Params, y.Params) && alikeLists(x.Alts, y.Alts, alikeAlts)
	})
}

func alikeAlts(a, b api.Alt) bool {
	return a.Prec == b.Prec && a.Has == b.Has && a.Action == b.Action && a.Where == b.Where && a.At == b.At && alikeWords(a.Words, b.Words)
}

func alikeWords(a, b []api.Word) bool {
	return alikeLists(a, b, func(x, y api.Word) bool {
		return x.Name == y.Name && x.At == y.At && alikeWords(x.Args, y.Args)
	})
}

// TestChangesAreSeen: what isWritten holds texts by tells each change of one, room behind lists and all.
func TestChangesAreSeen(t *testing.T) {
	for i, change := range []func(x api.Text){
		func(x api.Text) {},
		func(x api.Text) { x.Decls[0].Kind = "left" },
		func(x api.Text) { x.Decls[0].Type = "" },
		func(x api.Text) { x.Decls[0].At++ },
		func(x api.Text) { x.Decls[0].Names[0] = "B" },
		func(x api.Text) { x.Decls[0].Names = x.Decls[0].Names[:1] },
		func(x api.Text) { x.Decls[:2][1].Kind = "B" },
		func(x api.Text) { x.Decls[0].Names[:3][2] = "B" },
		func(x api.Text) { x.Rules[0].Name = "f" },
		func(x api.Text) { x.Rules[0].At++ },
		func(x api.Text) { x.Rules[0].Params[0] = "Y" },
		func(x api.Text) { x.Rules[0].Params = slices.Clone(x.Rules[0].Params[:1:1]) },
		func(x api.Text) { x.Rules[0].Alts = x.Rules[0].Alts[:1] },
		func(x api.Text) { x.Rules[0].Alts[:2][1].Prec = "P" },
		func(x api.Text) { x.Rules[0].Alts[0].Prec = "" },
		func(x api.Text) { x.Rules[0].Alts[0].Has = false },
		func(x api.Text) { x.Rules[0].Alts[0].Action = "" },
		func(x api.Text) { x.Rules[0].Alts[0].Where++ },
		func(x api.Text) { x.Rules[0].Alts[0].At++ },
		func(x api.Text) { x.Rules[0].Alts[0].Words[0].At++ },
		func(x api.Text) { x.Rules[0].Alts[0].Words[0].Args[0].Name = "c" },
		func(x api.Text) { x.Rules[0].Alts[0].Words[0].Args = nil },
		func(x api.Text) { x.Rules[0].Alts[1].Words = []api.Word{} },
	} {
		x := declared(decl("token", "int", "A", "B"))
		r := rule("e", prec(act(alt(word("a", word("b"))), "c"), "A"), alt())
		r.Params = []string{"X"}
		x.Rules = []api.Rule{r}
		x = copier{func() int { return 7 }, 2, same}.text(x)
		x.Rules[0].Alts[1].Words = nil
		kept := cloned(x)
		if change(x); alike(x, kept) != (i == 0) {
			t.Errorf("change %d is not seen", i)
		}
	}
}

func memorable() []api.Text {
	return append(samples(),
		api.Text{},
		acted(""),
		acted(strings.Repeat("{//}\n\"}\"}", 100)),
		worded(nested(60), nested(60)),
		declared(slices.Repeat([]api.Decl{decl("token", "int", "A", "B")}, 100)...),
	)
}

// TestLinesAreNewMemory writes over the bytes of all strings of a text that is written already.
func TestLinesAreNewMemory(t *testing.T) {
	for _, x := range memorable() {
		want := bookText(x)
		var mine [][]byte
		given := copier{func() int { return 0 }, 0, func(s string) string {
			if s == "" {
				return s
			}
			b := []byte(s)
			mine = append(mine, b)
			return unsafe.String(&b[0], len(b))
		}}.text(x)
		got, e := write.Text(given)
		for _, b := range mine {
			for i := range b {
				b[i] = '?'
			}
		}
		if e != api.OK || got != want {
			t.Errorf("%v %s, not %s", e, short(got), short(want))
		}
	}
}

// TestNoTwoShareLines writes over what was handed out once.
func TestNoTwoShareLines(t *testing.T) {
	for _, x := range memorable() {
		first, _ := write.Text(x)
		want := strings.Clone(first)
		second, _ := write.Text(x)
		bytes := unsafe.Slice(unsafe.StringData(first), len(first))
		for i := range bytes {
			bytes[i] = '?'
		}
		third, _ := write.Text(x)
		if second != want || third != want {
			t.Errorf("%s, %s, not %s", short(second), short(third), short(want))
		}
	}
}

// TestAlikeEachTime: R4; no call leaves anything to the next one.
func TestAlikeEachTime(t *testing.T) {
	refused := []api.Text{declared(api.Decl{}), ruled(api.Rule{}), worded(nested(61)), acted("}"), acted("{"), acted("\""), worded(word("a"), word("b c")), altered(prec(api.Alt{}, "-"))}
	for _, x := range memorable() {
		want := bookText(x)
		for _, other := range slices.Concat(refused, memorable()) {
			for _, asked := range []api.Text{other, x, x, other} {
				s, e := write.Text(asked)
				if is := mayBe(asked); is != (e == api.OK) || is && s != bookText(asked) || !is && s != "" {
					t.Errorf("%v %s, beside %s", e, short(s), short(want))
				}
			}
		}
	}
}
