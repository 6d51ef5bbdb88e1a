package symbols_test

import (
	"math/rand"
	"reflect"
	"strconv"
	"strings"
	"testing"

	"gristmill/api"
	"gristmill/symbols"
)

// base is a grammar that is right: terminals $end, A<int>, P.1l, B; nonterminals $accept, s<bool>, t; six productions.
func base(t *testing.T) api.Grammar {
	t.Helper()
	return made(t, "%token <int> A ; %left P ; %token B ; %type <bool> s ; %% s : A s B | t P t {x}7 | {}0 ; t : A A A A A s s s s s %prec B | ;")
}

// numbers are ones at edges, and those around each edge.
func numbers() []int {
	all := []int{-1 << 63, -1<<63 + 1, -1 << 32, 1 << 32, 1<<32 + 1, 1<<63 - 2, 1<<63 - 1}
	for n := -8; n < 12; n++ {
		all = append(all, n)
	}
	return all
}

// turn is a way to turn a grammar, and whether it is right then.
type turn struct {
	name  string
	turn  func(g *api.Grammar)
	right bool
}

// isTurned holds each turn of a grammar, which is right, against what is told of it, and against the document's words.
func isTurned(t *testing.T, turns []turn) {
	t.Helper()
	for _, x := range turns {
		g := base(t)
		isRight(t, g, true)
		x.turn(&g)
		if bookRight(g) != x.right || symbols.Right(g) != x.right {
			t.Errorf("%s: not %v", x.name, x.right)
		}
		isRight(t, g, x.right)
	}
}

// TestRightSymbols: P14.3; each of what the document says of symbols.
func TestRightSymbols(t *testing.T) {
	var turns []turn
	for i, at := range []string{"the end", "A", "P", "B", "$accept", "s", "t"} {
		fixed, terminal := i == 0 || i == 4, i < 4
		for _, name := range []string{"$end", "$accept", "", "A", "P", "B", "s", "t", "$End", "$", "x(y,z)", "a b", strings.Repeat("n", 1000)} {
			old := base(t).Symbols[i].Name
			known := strings.Contains(" $end $accept A P B s t ", " "+name+" ")
			right := name == old || !fixed && !known && name != ""
			turns = append(turns, turn{at + " is named " + name, func(g *api.Grammar) { g.Symbols[i].Name = name }, right})
		}
		for _, of := range []string{"", "int", "bool", "string", "float64", "Int", "float", "int64", "s", " ", "$end"} {
			right := of == "" || !fixed && strings.Contains(" int bool string float64 ", " "+of+" ") && of != " "
			turns = append(turns, turn{at + " is of type " + of, func(g *api.Grammar) { g.Symbols[i].Type = of }, right})
		}
		for _, level := range numbers() {
			for assoc := range api.Assoc(8) {
				none, one := level == 0 && assoc == api.AssocNone, level > 0 && assoc >= 1 && assoc <= 3
				right := none || one && terminal && !fixed
				turns = append(turns, turn{at + " binds", func(g *api.Grammar) { g.Symbols[i].Level, g.Symbols[i].Assoc = level, assoc }, right})
			}
		}
		for _, assoc := range []api.Assoc{4, 127, 128, 255} {
			turns = append(turns, turn{at + " binds in no way", func(g *api.Grammar) { g.Symbols[i].Level, g.Symbols[i].Assoc = 1, assoc }, false})
		}
	}
	isTurned(t, turns)
}

// TestRightNumbers: P14.3; how many of each there are.
func TestRightNumbers(t *testing.T) {
	var turns []turn
	for _, n := range numbers() {
		turns = append(turns, turn{strconv.Itoa(n) + " terminals", func(g *api.Grammar) { g.Terms = n }, n == 4})
	}
	turns = append(turns,
		turn{"no symbols", func(g *api.Grammar) { g.Symbols = nil }, false},
		turn{"no productions", func(g *api.Grammar) { g.Prods = nil }, false},
		turn{"empty productions", func(g *api.Grammar) { g.Prods = g.Prods[:0] }, false},
		turn{"nothing", func(g *api.Grammar) { *g = api.Grammar{} }, false},
		turn{"one production", func(g *api.Grammar) { g.Prods = g.Prods[:1] }, true},
		turn{"two productions", func(g *api.Grammar) { g.Prods = g.Prods[:2] }, true},
		turn{"no first production", func(g *api.Grammar) { g.Prods = g.Prods[1:] }, false},
		turn{"two first productions", func(g *api.Grammar) { g.Prods[1] = g.Prods[0] }, false},
		turn{"a symbol less", func(g *api.Grammar) { g.Symbols, g.Prods = g.Symbols[:6], g.Prods[:2] }, true},
		turn{"a symbol less, which is used", func(g *api.Grammar) { g.Symbols = g.Symbols[:6] }, false},
		turn{"two symbols less", func(g *api.Grammar) { g.Symbols, g.Prods = g.Symbols[:5], g.Prods[:1] }, false},
		turn{"three symbols less", func(g *api.Grammar) { g.Symbols, g.Prods = g.Symbols[:4], g.Prods[:1] }, false},
		turn{"one symbol", func(g *api.Grammar) { g.Symbols, g.Prods = g.Symbols[:1], g.Prods[:1] }, false})
	isTurned(t, turns)
	for terms := range 68 {
		for _, nonterms := range []int{0, 1, 2, 3, 63, 64, 65, 66} {
			for _, prods := range []int{0, 1, 2, 127, 128, 129, 130} {
				g := wide(terms, nonterms, prods)
				want := terms >= 1 && terms <= 64 && nonterms >= 2 && nonterms <= 64 && prods >= 1 && prods <= 128
				if bookRight(g) != want || symbols.Right(g) != want {
					t.Errorf("%d terminals, %d nonterminals, %d productions: not %v", terms, nonterms, prods, want)
				}
			}
		}
	}
	isRight(t, wide(1<<18, 2, 1), false)
	isRight(t, wide(1, 1<<18, 1), false)
	isRight(t, wide(1, 2, 1<<18), false)
}

// wide is a grammar of so many of each; nothing else in it is wrong.
func wide(terms, nonterms, prods int) api.Grammar {
	g := api.Grammar{Terms: terms}
	for i := range terms + nonterms {
		g.Symbols = append(g.Symbols, api.Symbol{Name: "n" + strconv.Itoa(i)})
	}
	for at, name := range map[int]string{0: "$end", terms: "$accept"} {
		if at < len(g.Symbols) {
			g.Symbols[at].Name = name
		}
	}
	for i := range prods {
		p := api.Prod{Left: terms + 1, Prec: -1}
		if i == 0 {
			p.Left, p.Right = terms, []int{terms + 1}
		}
		g.Prods = append(g.Prods, p)
	}
	return g
}

// TestRightStart: P14.3; the first production.
func TestRightStart(t *testing.T) {
	var turns []turn
	for _, n := range numbers() {
		at := strconv.Itoa(n)
		turns = append(turns,
			turn{"first Left " + at, func(g *api.Grammar) { g.Prods[0].Left = n }, n == 4},
			turn{"first Right " + at, func(g *api.Grammar) { g.Prods[0].Right[0] = n }, n == 5 || n == 6},
			turn{"first Rights " + at, func(g *api.Grammar) { g.Prods[0].Right = append(g.Prods[0].Right, n) }, false},
			turn{"first Prec " + at, func(g *api.Grammar) { g.Prods[0].Prec = n }, n == -1},
			turn{"first Where " + at, func(g *api.Grammar) { g.Prods[0].Where = n }, n == 0},
			turn{"first Has, Where " + at, func(g *api.Grammar) { g.Prods[0].Has, g.Prods[0].Where = true, n }, false})
	}
	turns = append(turns,
		turn{"first Right of none", func(g *api.Grammar) { g.Prods[0].Right = nil }, false},
		turn{"first Right of nothing", func(g *api.Grammar) { g.Prods[0].Right = []int{} }, false},
		turn{"first Right of two", func(g *api.Grammar) { g.Prods[0].Right = []int{5, 6} }, false},
		turn{"first Action", func(g *api.Grammar) { g.Prods[0].Action = "x" }, false},
		turn{"first Has, Action", func(g *api.Grammar) { g.Prods[0].Has, g.Prods[0].Action = true, "x" }, false})
	isTurned(t, turns)
}

// TestRightProds: P14.3; each other production, whichever it is.
func TestRightProds(t *testing.T) {
	var turns []turn
	for i := 1; i < 6; i++ {
		for _, n := range numbers() {
			at := strconv.Itoa(i) + " " + strconv.Itoa(n)
			part := n == 1 || n == 2 || n == 3 || n == 5 || n == 6
			turns = append(turns,
				turn{"Left " + at, func(g *api.Grammar) { g.Prods[i].Left = n }, n == 5 || n == 6},
				turn{"Right " + at, func(g *api.Grammar) { g.Prods[i].Right = []int{n} }, part},
				turn{"Right's first " + at, func(g *api.Grammar) { g.Prods[i].Right = []int{n, 1, 6} }, part},
				turn{"Right's second " + at, func(g *api.Grammar) { g.Prods[i].Right = []int{1, n, 6} }, part},
				turn{"Right's last " + at, func(g *api.Grammar) { g.Prods[i].Right = []int{1, 1, 1, 1, 1, 5, 5, 5, 5, n} }, part},
				turn{"Prec " + at, func(g *api.Grammar) { g.Prods[i].Prec = n }, n == -1 || n >= 1 && n <= 3})
			for _, has := range []bool{false, true} {
				for _, action := range []string{"", "x", " ", strings.Repeat("x", 1000)} {
					right := has && n >= 0 || !has && action == "" && n == 0
					turns = append(turns, turn{"Where " + at, func(g *api.Grammar) {
						g.Prods[i].Has, g.Prods[i].Action, g.Prods[i].Where = has, action, n
					}, right})
				}
			}
		}
		for n := range 14 {
			turns = append(turns, turn{"a long Right", func(g *api.Grammar) {
				g.Prods[i].Right = nil
				for k := range n {
					g.Prods[i].Right = append(g.Prods[i].Right, 1+k%3)
				}
			}, n <= 10})
		}
		turns = append(turns,
			turn{"a very long Right", func(g *api.Grammar) {
				g.Prods[i].Right = make([]int, 1<<18)
				fill(g.Prods[i].Right, 1)
			}, false},
			turn{"a Right of nothing", func(g *api.Grammar) { g.Prods[i].Right = []int{} }, true},
			turn{"as another one", func(g *api.Grammar) { g.Prods[i] = g.Prods[1] }, true})
	}
	isTurned(t, turns)
}

// TestWhatIsMadeIsRight: P14.4; just if no action's Where is less than 0.
func TestWhatIsMadeIsRight(t *testing.T) {
	for s, want := range map[string]bool{
		"%% s ;":                           true,
		"%% s : {x}0 | {}1 ;":              true,
		"%% s : {x}9223372036854775807 ;":  true,
		"%% s : {x}-1 ;":                   false,
		"%% s : {x}3 | {}-1 | ;":           false,
		"%% s : !{x}-1 | !{y}4 ;":          true,
		"%% s : {x}-9223372036854775808 ;": false,
		full(64, 64, 128):                  true,
		full(2, 2, 2):                      true,
	} {
		g := made(t, s)
		isRight(t, g, want)
	}
	for _, s := range memorable() {
		isRight(t, made(t, s), true)
	}
}

// TestMadeAndTurned: P14.3, P14.4; made-up texts' grammars are right, and are held against the document's words with something in them turned.
func TestMadeAndTurned(t *testing.T) {
	r := rand.New(rand.NewSource(8))
	met := map[bool]int{}
	for range 60000 {
		g, fault := symbols.Make(madeUp(r))
		if fault.Err != api.OK {
			continue
		}
		negative := false
		for _, p := range g.Prods {
			negative = negative || p.Where < 0
		}
		if symbols.Right(g) == negative || bookRight(g) == negative {
			t.Errorf("%s", shown(g))
		}
		for range 1 + r.Intn(2) {
			turnAbout(r, &g)
		}
		want := bookRight(g)
		met[want]++
		isRight(t, g, want)
	}
	if met[true] < 500 || met[false] < 5000 {
		t.Error(met)
	}
}

// turnAbout turns one thing of a grammar, or none.
func turnAbout(r *rand.Rand, g *api.Grammar) {
	n := numbers()[r.Intn(len(numbers()))]
	if len(g.Symbols) == 0 || len(g.Prods) == 0 {
		return
	}
	s, p := &g.Symbols[r.Intn(len(g.Symbols))], &g.Prods[r.Intn(len(g.Prods))]
	switch r.Intn(14) {
	case 0:
		g.Terms += r.Intn(3) - 1
	case 1:
		s.Name = []string{"", "A", "$end", "$accept", "x", "y"}[r.Intn(6)]
	case 2:
		s.Type = []string{"", "int", "bool", "Int", "float64"}[r.Intn(5)]
	case 3:
		s.Level = n
	case 4:
		s.Assoc = api.Assoc(r.Intn(5))
	case 5:
		p.Left = n
	case 6:
		if len(p.Right) > 0 {
			p.Right[r.Intn(len(p.Right))] = n
		}
	case 7:
		p.Right = append(p.Right, 1)
	case 8:
		p.Prec = n
	case 9:
		p.Has = !p.Has
	case 10:
		p.Action = []string{"", "x"}[r.Intn(2)]
	case 11:
		p.Where = n
	case 12:
		g.Symbols = append(g.Symbols, api.Symbol{Name: "z" + strconv.Itoa(n)})
	case 13:
		g.Prods = g.Prods[:r.Intn(len(g.Prods)+1)]
	}
}

// TestAnyGrammars: R1; grammars of anything.
func TestAnyGrammars(t *testing.T) {
	r := rand.New(rand.NewSource(9))
	met := map[bool]int{}
	for range 60000 {
		g := api.Grammar{Terms: r.Intn(5) - 1}
		for range r.Intn(6) {
			g.Symbols = append(g.Symbols, api.Symbol{Name: []string{"$end", "$accept", "a", "b", "", "c"}[r.Intn(6)], Type: []string{"", "", "int", "x"}[r.Intn(4)], Level: r.Intn(20) / 18, Assoc: api.Assoc(r.Intn(20) / 18)})
		}
		if r.Intn(4) > 0 && len(g.Symbols) > 2 {
			g.Terms = 1 + r.Intn(len(g.Symbols)-2)
			g.Symbols[0], g.Symbols[g.Terms] = api.Symbol{Name: "$end"}, api.Symbol{Name: "$accept"}
		}
		for range r.Intn(4) {
			p := api.Prod{Left: r.Intn(6) - 1, Prec: r.Intn(4)/3*r.Intn(3) - 1, Has: r.Intn(2) == 0, Where: r.Intn(10) / 9}
			for range r.Intn(3) {
				p.Right = append(p.Right, r.Intn(6)-1)
			}
			g.Prods = append(g.Prods, p)
		}
		if len(g.Prods) > 0 && r.Intn(3) > 0 {
			g.Prods[0] = api.Prod{Left: g.Terms, Right: []int{g.Terms + 1}, Prec: -1}
		}
		want := bookRight(g)
		met[want]++
		isRight(t, g, want)
	}
	if met[true] < 100 || met[false] < 5000 {
		t.Error(met)
	}
	if got := symbols.Right(api.Grammar{}); got || !reflect.DeepEqual(api.Grammar{}, plain.grammar(api.Grammar{})) {
		t.Error(got)
	}
}
