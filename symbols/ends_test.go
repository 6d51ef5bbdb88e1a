package symbols_test

import (
	"math/rand"
	"testing"

	"gristmill/api"
	"gristmill/symbols"
)

// isOnce asks what is told of texts that are too great for being asked more than once.
func isOnce(t *testing.T, name string, x api.Text, want api.Fault) api.Grammar {
	t.Helper()
	g, fault := symbols.Make(x)
	if fault != want || fault.Err != api.OK && (g.Terms != 0 || g.Symbols != nil || g.Prods != nil) {
		t.Errorf("%s: %v, %d symbols, not %v", name, fault, len(g.Symbols), want)
	}
	if fault.Err == api.OK && !symbols.Right(g) {
		t.Errorf("%s: what is made is not right", name)
	}
	return g
}

// pick is one of a row, mostly one of its first ones.
func pick[T any](r *rand.Rand, row ...T) T {
	n := r.Intn(len(row))
	return row[min(n, r.Intn(len(row)))]
}

// madeUp is a text, mostly one with few faults or none.
func madeUp(r *rand.Rand) api.Text {
	var x api.Text
	odd := func() bool { return r.Intn(40) == 0 }
	name := func(names ...string) string {
		if odd() {
			return pick(r, "", "$end", "$accept", "A", "s", "none")
		}
		return names[r.Intn(len(names))]
	}
	for range r.Intn(5) {
		d := api.Decl{Kind: pick(r, "token", "left", "right", "nonassoc", "type", "start"), At: r.Intn(1000)}
		fresh := []string{"A", "B", "C", "D", "E", "F", "G", "H"}
		if d.Kind == "type" || d.Kind == "start" {
			fresh = []string{"s", "t", "u"}
		}
		for range 1 + r.Intn(2)*r.Intn(2) {
			d.Names = append(d.Names, name(fresh...))
		}
		if d.Kind == "type" || d.Kind == "token" && r.Intn(2) == 0 {
			d.Type = pick(r, "int", "bool", "string", "float64")
		}
		if odd() {
			d.Type = pick(r, "", "int", "Int")
		}
		if odd() {
			d.Kind = pick(r, "token", "none", "")
		}
		x.Decls = append(x.Decls, d)
	}
	for i := range r.Intn(4) {
		y := api.Rule{Name: name([]string{"s", "t", "u"}[i]), At: r.Intn(1000)}
		for range r.Intn(4) {
			a := api.Alt{Has: r.Intn(2) == 0, Action: pick(r, "", "x", "y"), Where: r.Intn(20) - r.Intn(20)/19, At: r.Intn(1000)}
			for range r.Intn(4) {
				a.Words = append(a.Words, api.Word{Name: name("A", "s", "A", "s", "t", "B"), At: r.Intn(1000)})
			}
			if r.Intn(4) == 0 {
				a.Prec = name("A", "A", "A", "B")
			}
			y.Alts = append(y.Alts, a)
		}
		x.Rules = append(x.Rules, y)
	}
	return x
}

// TestMadeUpTexts: P14.1, P14.2; held against the document's words.
func TestMadeUpTexts(t *testing.T) {
	r := rand.New(rand.NewSource(5))
	met := map[api.Errno]int{}
	for range 60000 {
		_, fault := byTheBook(t, madeUp(r))
		met[fault.Err]++
	}
	for _, err := range []api.Errno{api.OK, api.ErrArg, api.ErrType, api.ErrSymbol, api.ErrTwice, api.ErrStart} {
		if met[err] < 500 {
			t.Errorf("%v: only %d", err, met[err])
		}
	}
}

// TestAnyTexts: R1; texts of anything.
func TestAnyTexts(t *testing.T) {
	r := rand.New(rand.NewSource(6))
	text := func() string {
		return []string{"", "type", "token", "left", "start", "int", "a", "b", "$end", "$accept", "\xff\x00"}[r.Intn(11)]
	}
	texts := func() []string {
		var out []string
		for r.Intn(3) == 0 {
			out = append(out, text())
		}
		return out
	}
	var words func(deep int) []api.Word
	words = func(deep int) []api.Word {
		var out []api.Word
		for r.Intn(deep) == 0 {
			out = append(out, api.Word{Name: text(), Args: words(deep + 4), At: r.Int() - r.Int()})
		}
		return out
	}
	met := map[api.Errno]int{}
	for range 30000 {
		var x api.Text
		for r.Intn(3) == 0 {
			x.Decls = append(x.Decls, api.Decl{Kind: text(), Type: text(), Names: texts(), At: r.Int() - r.Int()})
		}
		for r.Intn(2) > 0 {
			y := api.Rule{Name: text(), At: r.Int() - r.Int()}
			if r.Intn(4) == 0 {
				y.Params = texts()
			}
			for r.Intn(2) == 0 {
				y.Alts = append(y.Alts, api.Alt{Words: words(2), Prec: text(), Has: r.Intn(2) == 0, Action: text(), Where: r.Int() - r.Int(), At: r.Int() - r.Int()})
			}
			x.Rules = append(x.Rules, y)
		}
		_, fault := byTheBook(t, x)
		met[fault.Err]++
	}
	for _, err := range []api.Errno{api.OK, api.ErrParams, api.ErrArg, api.ErrSymbol, api.ErrStart} {
		if met[err] < 100 {
			t.Errorf("%v: only %d", err, met[err])
		}
	}
}
