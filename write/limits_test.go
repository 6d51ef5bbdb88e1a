package write_test

import (
	"slices"
	"strings"
	"testing"

	"gristmill/api"
	"gristmill/read"
)

// filled are texts that are as much longer as they are told.
func filled() map[string]func(n int) api.Text {
	return map[string]func(n int) api.Text{
		"an action": func(n int) api.Text { return acted(strings.Repeat("a", n)) },
		"a string":  func(n int) api.Text { return acted("\"" + strings.Repeat("}", n) + "\"") },
		"a comment": func(n int) api.Text { return acted("//" + strings.Repeat("{", n) + "\n") },
		"names of a decl": func(n int) api.Text {
			return declared(decl("left", "", fill(n, 1)...))
		},
		"names of a decl with a type": func(n int) api.Text {
			return declared(decl("token", "int", fill(n, 1)...), decl("type", "T", "e"))
		},
		"params": func(n int) api.Text {
			return ruled(api.Rule{Name: "e", Params: fill(n, 2), Alts: []api.Alt{{}}})
		},
		"words": func(n int) api.Text { return worded(asWords(fill(n, 1))...) },
		"args":  func(n int) api.Text { return worded(word("f", asWords(fill(n, 2))...)) },
		"deep words": func(n int) api.Text {
			return worded(append(slices.Repeat([]api.Word{nested(60)}, n/200), asWords(fill(n-n/200*182, 1))...)...)
		},
		"alternatives": func(n int) api.Text {
			return altered(append(make([]api.Alt, n/100), alt(asWords(fill(n-n/100*3, 1))...))...)
		},
		"rules": func(n int) api.Text {
			return ruled(append(slices.Repeat([]api.Rule{rule("e", alt())}, n/100), rule("e", alt(asWords(fill(n-n/100*6, 1))...)))...)
		},
		"decls": func(n int) api.Text {
			return declared(append(slices.Repeat([]api.Decl{decl("right", "", "A")}, n/100), decl("start", "", fill(n-n/100*10, 1)...))...)
		},
	}
}

// fill is names that have so many bytes, with so many ahead of each.
func fill(n, ahead int) []string {
	var out []string
	for n > 0 {
		long := min(n-ahead, 30)
		if rest := n - ahead - long; rest > 0 && rest <= ahead {
			long -= ahead + 1 - rest
		}
		out = append(out, strings.Repeat("N", long))
		n -= ahead + long
	}
	return out
}

func asWords(names []string) []api.Word {
	var out []api.Word
	for _, name := range names {
		out = append(out, word(name))
	}
	return out
}

// sized is a text of a kind that is written as so many bytes.
func sized(t *testing.T, text func(n int) api.Text, bytes int) api.Text {
	t.Helper()
	n := 2*bytes - len(bookText(text(bytes)))
	if got := len(bookText(text(n))); got != bytes {
		t.Fatalf("%d bytes, not %d", got, bytes)
	}
	return text(n)
}

// TestAsLongAsASource: what is written is read, if it has at most 2^16 bytes; of one byte more it is written, but not read.
func TestAsLongAsASource(t *testing.T) {
	for name, text := range filled() {
		for _, bytes := range []int{1000, 1 << 12, 1<<16 - 1, 1 << 16, 1<<16 + 1, 1<<16 + 2, 1 << 17, 1 << 20} {
			x := sized(t, text, bytes)
			want := bookText(x)
			isWritten(t, x, want)
			_, fault := read.Text(want)
			if (bytes <= 1<<16) != (fault == api.Fault{}) || bytes > 1<<16 && fault != (api.Fault{Err: api.ErrLong}) {
				t.Errorf("%s of %d bytes: %v", name, bytes, fault)
			}
		}
	}
}
