package expand_test

import (
	"testing"

	"gristmill/api"
)

// TestExamples: the chapter's own.
func TestExamples(t *testing.T) {
	isTold(t, "%% s: list(opt(A)) ; list(X): X | list(X) B X ; opt(X): X | ;",
		"%% s: list(opt(A)); opt(A): A |; list(opt(A)): opt(A) | list(opt(A)) B opt(A);")
	isFault(t, "%% s: f(A) ; f(X): @f(g(X)) ; g(X): X ;", api.ErrDeep)
}

// TestWanted: P13.1, P13.2; which words are wanted, and in which order.
func TestWanted(t *testing.T) {
	for _, c := range [][2]string{
		// None; templates that nobody wants are told nowhere, whatever stands in them.
		{"%% s: A s;", "%% s: A s;"},
		{"%% f(X): X;", "%%"},
		{"%% s: A; f(X): X; g(X): f(X);", "%% s: A;"},
		{"%% f(X): s(X) X(X) f f(A, B) none(X); s: ;", "%% s:;"},

		// Rules without Params come first, as they stand; then what is wanted, as it came.
		{"%% f(X): X; s: f(B) f(A); g(X): X X; t: g(C) f(A); u: ;", "%% s: f(B) f(A); t: g(C) f(A); u:; f(B): B; f(A): A; g(C): C C;"},
		{"%% s: t f(A); t: g(A) f(B); g(X): X; f(X): X;", "%% s: t f(A); t: g(A) f(B); f(A): A; g(A): A; f(B): B;"},
		{"%% s: f(A) | g(A) f(B) | h(A); f(X): ; g(X): ; h(X): ;", "%% s: f(A) | g(A) f(B) | h(A); f(A):; g(A):; f(B):; h(A):;"},

		// Once each, though wanted again: by the same rule, another one, a template, another way.
		{"%% s: f(A) f(A) | f(A); t: f(A); f(X): X;", "%% s: f(A) f(A) | f(A); t: f(A); f(A): A;"},
		{"%% s: f(A) g(A); f(X): g(X); g(X): f(X);", "%% s: f(A) g(A); f(A): g(A); g(A): f(A);"},
		{"%% s: g(A) h(A) f(B); f(X): X; g(X): f(X); h(Y): f(Y);", "%% s: g(A) h(A) f(B); g(A): f(A); h(A): f(A); f(B): B; f(A): A;"},
		{"%% s: p(f(A), A); p(X, Y): q(X) q(f(Y)); q(X): X; f(X): X;", "%% s: p(f(A),A); f(A): A; p(f(A),A): q(f(A)) q(f(A)); q(f(A)): f(A);"},

		// Args are wanted ahead, in their order, and theirs ahead of them.
		{"%% s: p(f(A), g(B)); p(X, Y): ; f(X): ; g(X): ;", "%% s: p(f(A),g(B)); f(A):; g(B):; p(f(A),g(B)):;"},
		{"%% s: f(g(h(A))); f(X): X; g(X): X; h(X): X;", "%% s: f(g(h(A))); h(A): A; g(h(A)): h(A); f(g(h(A))): g(h(A));"},
		{"%% s: p(p(f(A), f(B)), p(f(B), f(C))); p(X, Y): Y X; f(X): X;", "%% s: p(p(f(A),f(B)),p(f(B),f(C))); f(A): A; f(B): B; p(f(A),f(B)): f(B) f(A); f(C): C; p(f(B),f(C)): f(C) f(B); p(p(f(A),f(B)),p(f(B),f(C))): p(f(B),f(C)) p(f(A),f(B));"},
		{"%% s: p(A, f(B)) f(A); p(X, Y): f(X) f(Y); f(X): X;", "%% s: p(A,f(B)) f(A); f(B): B; p(A,f(B)): f(A) f(f(B)); f(A): A; f(f(B)): f(B);"},

		// Templates that have themselves in them, or one another.
		{"%% s: l(A); l(X): X | l(X) X;", "%% s: l(A); l(A): A | l(A) A;"},
		{"%% s: l(l(A)); l(X): l(X) X | ;", "%% s: l(l(A)); l(A): l(A) A |; l(l(A)): l(l(A)) l(A) |;"},
		{"%% s: p(A, B); p(X, Y): p(Y, X) X;", "%% s: p(A,B); p(A,B): p(B,A) A; p(B,A): p(A,B) B;"},
		{"%% s: r(A, B, C); r(X, Y, Z): r(Y, Z, X) | Z;", "%% s: r(A,B,C); r(A,B,C): r(B,C,A) | C; r(B,C,A): r(C,A,B) | A; r(C,A,B): r(A,B,C) | B;"},
		{"%% s: f(A); f(X): g(X) X; g(X): f(X) | f(B);", "%% s: f(A); f(A): g(A) A; g(A): f(A) | f(B); f(B): g(B) B; g(B): f(B) | f(B);"},
		{"%% s: f(f(A)) f(A); f(X): X;", "%% s: f(f(A)) f(A); f(A): A; f(f(A)): f(A);"},

		// What is wanted by what is wanted comes behind all that was wanted ahead.
		{"%% s: f(A) h(B); f(X): g(X); g(X): X; h(X): X;", "%% s: f(A) h(B); f(A): g(A); h(B): B; g(A): A;"},
	} {
		isTold(t, c[0], c[1])
	}
}

// TestWhatParamsStandFor: a Param goes ahead of a rule of its Name; what it stands for is resolved already.
func TestWhatParamsStandFor(t *testing.T) {
	for _, c := range [][2]string{
		{"%% s: f(A); f(s): s; ", "%% s: f(A); f(A): A;"},
		{"%% s: f(A); f(f): f; ", "%% s: f(A); f(A): A;"},
		{"%% s: f(A); f(g): g | h(g); g(X): X; h(g): g;", "%% s: f(A); f(A): A | h(A); h(A): A;"},
		{"%% s: f(Y) f(X); f(X): X Y X;", "%% s: f(Y) f(X); f(Y): Y Y Y; f(X): X Y X;"},
		{"%% s: p(Y, X); p(X, Y): X Y p(X, Y);", "%% s: p(Y,X); p(Y,X): Y X p(Y,X);"},
		{"%% s: p(A, B); p(X, Y): q(Y, X); q(X, Y): X Y;", "%% s: p(A,B); p(A,B): q(B,A); q(B,A): B A;"},
		{"%% s: f(t); t: s; f(X): X t;", "%% s: f(t); t: s; f(t): t t;"},
		{"%% s: f(g(A)); f(X): g(X) X; g(X): ;", "%% s: f(g(A)); g(A):; f(g(A)): g(g(A)) g(A); g(g(A)):;"},
		{"%% X: f(A); Y: X; f(X): X Y;", "%% X: f(A); Y: X; f(A): A Y;"},
		{"%% s: f(X); f(Y): Y X; X: A;", "%% s: f(X); X: A; f(X): X X;"},
	} {
		isTold(t, c[0], c[1])
	}
}
