package expand_test

import (
	"testing"

	"gristmill/api"
)

// TestFirstFaults: P13.1; the @ stands where the fault is told.
func TestFirstFaults(t *testing.T) {
	for err, sources := range map[api.Errno][]string{
		api.ErrTwice: {
			"%% s: ; @s: ;",
			"%% s: ; t: ; @s: A; s: B; t: ;",
			"%% f(X): ; @f(X): ;",
			"%% f(X): ; @f: ;",
			"%% s: ; @s(X): ;",
			"%% @f(X, X): ;",
			"%% s: ; @f(X, Y, X): ;",
			"%% @f(X, Y, Y): ; s: ; s: ;",
			"%% s: ; @s: ; f(X, X): ;",
			"%% f(A, B, C, D, E): ; @g(A, B, C, D, A): ; g(X): ;",
			// Ahead of all that stands in the rules.
			"%% s: s(A) f f(A, B); f(X): X(A); @f(Y): ;",
			"%% s: s(A); t: none(A); @t(X, X): ;",
			"%% s: f(A); f(X): f(f(X)); @t(X, X): ;",
		},
		api.ErrParams: {
			// A rule's Name with too few Args, too many, none.
			"%% s: @f; f(X): X;",
			"%% s: A @f(A, B); f(X): X;",
			"%% s: @p(A); p(X, Y): ;",
			"%% s: A | B @p; p(X, Y): ;",
			"%% s: @p(A, B, C); p(X, Y): ;",
			"%% s: @s(A);",
			"%% s: A; t: s @s(A, B);",
			// A Name of no rule with Args.
			"%% s: @A(B);",
			"%% s: A @none(f(A)); f(X): ;",
			// A Param with Args, also one of the Name of a rule; it goes ahead.
			"%% s: f(A); f(X): @X(A);",
			"%% s: f(A); f(X): X | A @X(X);",
			"%% s: f(A); f(g): @g(A); g(X): ;",
			"%% s: f(A); f(f): @f(f);",
			"%% s: p(A, B); p(X, Y): X @Y(A);",
			// Of words within words; words around them come first, then one behind the other.
			"%% s: f(@g); f(X): ; g(X): ;",
			"%% s: f(@A(A)); f(X): ;",
			"%% s: f(f(@f)); f(X): ;",
			"%% s: f(f(f(@s(A)))); f(X): ;",
			"%% s: p(A, @A(B)); p(X, Y): ;",
			"%% s: p(@A(A), B(B)); p(X, Y): ;",
			"%% s: p(f(f(@f(A, B))), A(A)); p(X, Y): ; f(X): ;",
			"%% s: @p(A(A)); p(X, Y): ;",
			"%% s: @s(s(A));",
			"%% s: @A(A(A));",
			"%% s: f(A); f(X): @X(X(X));",
			"%% s: f(A); f(X): f(f(@X(A)));",
			// One behind the other: Words, Alts, rules, and then what is wanted, as it came.
			"%% s: A @f B(A) | f; f(X): ;",
			"%% s: A | B A @f | f(A, B); f(X): ;",
			"%% s: A; t: @f; u: A(A); f(X): ;",
			"%% f(X): X(X); s: f(A); t: @f;",
			"%% g(X): X(X) A; f(X): @f; s: f(A) g(A);",
			"%% g(X): X(X); f(X): X; s: f(f(A)) @g(g(A), A);",
			"%% f(X): g(X) h(X); g(X): @g; h(X): h; s: f(A);",
			"%% f(X): g(X) h(X) @f; g(X): g; h(X): h; s: f(A);",
			"%% f(X): g(h(X)); g(X): g; h(X): @h; s: f(A);",
			"%% s: f(A); f(X): @Y(X);",
			"%% s: f(A) f(B); f(X): X @A(B);",
			// Args that are resolved stay as they are: the fault is the first one's.
			"%% s: f(@X(A)); f(X): X(A);",
		},
		api.ErrDeep: {
			"%% s: @f(f(f(f(f(f(f(f(A)))))))); f(X): ;",
			"%% s: f(f(@f(f(f(f(f(f(f(f(A)))))))))); f(X): ;",
			"%% s: p(A, f(@f(f(f(f(f(f(f(f(A)))))))))); p(X, Y): ; f(X): ;",
			"%% s: f(A); f(X): @f(f(X));",
			"%% s: f(A); f(X): A | X @f(f(X)) X;",
			"%% s: f(A); f(X): g(X); g(Y): A @f(h(Y)); h(Z): Z;",
			"%% s: f(g(g(g(A)))); f(X): @g(g(g(g(g(X))))); g(X): ;",
			// Of the deepest one of the Args.
			"%% s: p(A, f(f(f(f(f(f(A))))))) @p(f(f(f(f(f(f(f(A))))))), A); p(X, Y): ; f(X): ;",
			"%% s: p(f(f(f(f(f(f(A)))))), A) @p(A, f(f(f(f(f(f(f(A)))))))); p(X, Y): ; f(X): ;",
			// Ahead of what stands behind it; what stands ahead of it was met.
			"%% s: @f(f(f(f(f(f(f(f(A)))))))) f; f(X): ;",
			"%% s: p(@f(f(f(f(f(f(f(f(A)))))))), f); p(X, Y): ; f(X): ;",
		},
	} {
		for _, s := range sources {
			isFault(t, s, err)
		}
	}
	for _, s := range []string{
		"%% s: f(f(f(f(f(f(f(f(f(f(@A(A))))))))))); f(X): ;",
		"%% s: f(f(f(f(f(f(f(f(f(@f))))))))); f(X): ;",
		"%% s: @p(f(f(f(f(f(f(f(f(f(A)))))))))); p(X, Y): ; f(X): ;",
		"%% s: @A(f(f(f(f(f(f(f(f(f(A)))))))))); f(X): ;",
	} {
		isFault(t, s, api.ErrParams)
	}
}

// TestFaultsPlaces: the At that the Word, or the Rule, has, whatever it is; all other places play no part.
func TestFaultsPlaces(t *testing.T) {
	for _, at := range []int{0, 1, -1, 77, 1 << 40, -1 << 63, 1<<63 - 1} {
		s := func(w api.Word) api.Rule {
			return api.Rule{Name: "s", At: 5, Alts: []api.Alt{{At: 6, Where: 7, Words: []api.Word{w}}}}
		}
		f := api.Rule{Name: "f", Params: []string{"X"}, At: 8, Alts: []api.Alt{{Words: []api.Word{{Name: "A", At: 9}}, At: 10}}}
		a := api.Word{Name: "A", At: 11}
		g := f
		g.Alts = []api.Alt{{Words: []api.Word{{Name: "f", At: at}}, At: 10}}
		deep := a
		for range 7 {
			deep = api.Word{Name: "f", Args: []api.Word{deep}, At: 12}
		}
		long := api.Word{Name: string(make([]byte, 998)), At: 13}
		again := f
		again.At = at
		twice := api.Rule{Name: "g", Params: []string{"X", "X"}, At: at}
		for _, c := range []struct {
			rules []api.Rule
			err   api.Errno
		}{
			{[]api.Rule{s(a), f, again}, api.ErrTwice},
			{[]api.Rule{s(a), twice, f}, api.ErrTwice},
			{[]api.Rule{s(api.Word{Name: "f", At: at}), f}, api.ErrParams},
			{[]api.Rule{s(api.Word{Name: "f", Args: []api.Word{{Name: "s", Args: []api.Word{a}, At: at}}, At: 14}), f}, api.ErrParams},
			{[]api.Rule{s(api.Word{Name: "f", Args: []api.Word{a}, At: 14}), g}, api.ErrParams},
			{[]api.Rule{s(api.Word{Name: "f", Args: []api.Word{deep}, At: at}), f}, api.ErrDeep},
			{[]api.Rule{s(api.Word{Name: "f", Args: []api.Word{long}, At: at}), f}, api.ErrLong},
		} {
			if _, fault := byTheBook(t, api.Text{Rules: c.rules}); fault != (api.Fault{Err: c.err, At: at}) {
				t.Errorf("%v, not %v at %d", fault, c.err, at)
			}
		}
	}
}
