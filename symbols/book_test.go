package symbols_test

import (
	"slices"

	"gristmill/api"
)

// What the document's words say, as plainly as they do.

// book has a text's terminals and nonterminals as far as they are known, the end and $accept not among them.
type book struct {
	api.Text
	terms []api.Symbol
	rules []api.Symbol
	level int
	start string
}

func has(all []api.Symbol, name string) bool { return find(all, name) >= 0 }

func find(all []api.Symbol, name string) int {
	return slices.IndexFunc(all, func(s api.Symbol) bool { return s.Name == name })
}

var (
	unnamable = []string{"", "$end", "$accept"}
	fourTypes = []string{"int", "bool", "string", "float64"}
	binds     = map[string]api.Assoc{"left": api.AssocLeft, "right": api.AssocRight, "nonassoc": api.AssocNon}
)

// bookMake goes through the text five times.
func bookMake(t api.Text) (api.Grammar, api.Fault) {
	b := book{Text: t}
	for _, time := range []func() api.Fault{b.first, b.second, b.third, b.fourth, b.fifth, b.last} {
		if f := time(); f.Err != api.OK {
			return api.Grammar{}, f
		}
	}
	return b.told(), api.Fault{}
}

func (b *book) first() api.Fault {
	for _, r := range b.Rules {
		if len(r.Params) > 0 {
			return api.Fault{Err: api.ErrParams, At: r.At}
		}
		for _, a := range r.Alts {
			for _, w := range a.Words {
				if len(w.Args) > 0 {
					return api.Fault{Err: api.ErrParams, At: w.At}
				}
			}
		}
	}
	return api.Fault{}
}

func (b *book) second() api.Fault {
	starts := 0
	for _, d := range b.Decls {
		err := api.OK
		switch d.Kind {
		case "token":
			err = b.token(d)
		case "left", "right", "nonassoc":
			err = b.binding(d)
		case "type":
			if !slices.Contains(fourTypes, d.Type) {
				err = api.ErrType
			}
		case "start":
			if len(d.Names) != 1 || starts > 0 {
				err = api.ErrStart
			}
			starts++
		default:
			err = api.ErrArg
		}
		if err != api.OK {
			return api.Fault{Err: err, At: d.At}
		}
	}
	return api.Fault{}
}

func (b *book) token(d api.Decl) api.Errno {
	if d.Type != "" && !slices.Contains(fourTypes, d.Type) {
		return api.ErrType
	}
	for _, name := range d.Names {
		if slices.Contains(unnamable, name) {
			return api.ErrSymbol
		}
		if has(b.terms, name) {
			return api.ErrTwice
		}
		b.terms = append(b.terms, api.Symbol{Name: name, Type: d.Type})
	}
	return api.OK
}

func (b *book) binding(d api.Decl) api.Errno {
	if d.Type != "" {
		return api.ErrType
	}
	b.level++
	for _, name := range d.Names {
		if slices.Contains(unnamable, name) {
			return api.ErrSymbol
		}
		if !has(b.terms, name) {
			b.terms = append(b.terms, api.Symbol{Name: name})
		}
		at := find(b.terms, name)
		if b.terms[at].Level > 0 {
			return api.ErrTwice
		}
		b.terms[at].Level = b.level
		b.terms[at].Assoc = binds[d.Kind]
	}
	return api.OK
}

func (b *book) third() api.Fault {
	for _, r := range b.Rules {
		if slices.Contains(unnamable, r.Name) {
			return api.Fault{Err: api.ErrSymbol, At: r.At}
		}
		if has(b.terms, r.Name) || has(b.rules, r.Name) {
			return api.Fault{Err: api.ErrTwice, At: r.At}
		}
		b.rules = append(b.rules, api.Symbol{Name: r.Name})
	}
	if len(b.Rules) == 0 {
		return api.Fault{Err: api.ErrStart}
	}
	return api.Fault{}
}

func (b *book) fourth() api.Fault {
	b.start = b.rules[0].Name
	for _, d := range b.Decls {
		for _, name := range d.Names {
			at := find(b.rules, name)
			switch {
			case d.Kind == "type" && at < 0:
				return api.Fault{Err: api.ErrSymbol, At: d.At}
			case d.Kind == "type" && b.rules[at].Type != "":
				return api.Fault{Err: api.ErrTwice, At: d.At}
			case d.Kind == "type":
				b.rules[at].Type = d.Type
			case d.Kind == "start" && at < 0:
				return api.Fault{Err: api.ErrStart, At: d.At}
			case d.Kind == "start":
				b.start = name
			}
		}
	}
	return api.Fault{}
}

func (b *book) fifth() api.Fault {
	for _, r := range b.Rules {
		for _, a := range r.Alts {
			if len(a.Words) > 10 {
				return api.Fault{Err: api.ErrMany, At: a.At}
			}
			for _, w := range a.Words {
				if !has(b.terms, w.Name) && !has(b.rules, w.Name) {
					return api.Fault{Err: api.ErrSymbol, At: w.At}
				}
			}
			if a.Prec != "" && !has(b.terms, a.Prec) {
				return api.Fault{Err: api.ErrSymbol, At: a.At}
			}
		}
	}
	return api.Fault{}
}

func (b *book) last() api.Fault {
	prods := 1
	for _, r := range b.Rules {
		prods += len(r.Alts)
	}
	if 1+len(b.terms) > 64 || 1+len(b.rules) > 64 || prods > 128 {
		return api.Fault{Err: api.ErrMany}
	}
	return api.Fault{}
}

func (b *book) told() api.Grammar {
	all := slices.Concat([]api.Symbol{{Name: "$end"}}, b.terms, []api.Symbol{{Name: "$accept"}}, b.rules)
	g := api.Grammar{Terms: 1 + len(b.terms), Symbols: all}
	g.Prods = append(g.Prods, api.Prod{Left: g.Terms, Right: []int{find(all, b.start)}, Prec: -1})
	for _, r := range b.Rules {
		for _, a := range r.Alts {
			p := api.Prod{Left: find(all, r.Name), Prec: find(all, a.Prec)}
			for _, w := range a.Words {
				n := find(all, w.Name)
				p.Right = append(p.Right, n)
				if a.Prec == "" && n < g.Terms && all[n].Level > 0 {
					p.Prec = n
				}
			}
			if a.Has {
				p.Has, p.Action, p.Where = true, a.Action, a.Where
			}
			g.Prods = append(g.Prods, p)
		}
	}
	return g
}

// bookRight asks one thing after the other.
func bookRight(g api.Grammar) bool {
	if g.Terms < 1 || g.Terms > 64 || len(g.Symbols) < g.Terms+2 || len(g.Symbols) > g.Terms+64 {
		return false
	}
	for i, s := range g.Symbols {
		if s.Name == "" || s.Type != "" && !slices.Contains(fourTypes, s.Type) {
			return false
		}
		for _, other := range g.Symbols[:i] {
			if other.Name == s.Name {
				return false
			}
		}
		if i == 0 && s != (api.Symbol{Name: "$end"}) || i == g.Terms && s != (api.Symbol{Name: "$accept"}) {
			return false
		}
		none := s.Level == 0 && s.Assoc == api.AssocNone
		one := s.Level > 0 && s.Assoc >= api.AssocLeft && s.Assoc <= api.AssocNon
		if !none && (i > g.Terms || !one) {
			return false
		}
	}
	if len(g.Prods) < 1 || len(g.Prods) > 128 {
		return false
	}
	for i, p := range g.Prods {
		if i == 0 && !bookStart(g, p) || i > 0 && !bookProd(g, p) {
			return false
		}
	}
	return true
}

func bookStart(g api.Grammar, p api.Prod) bool {
	if p.Left != g.Terms || len(p.Right) != 1 || p.Right[0] <= g.Terms || p.Right[0] >= len(g.Symbols) {
		return false
	}
	return p.Prec == -1 && !p.Has && p.Action == "" && p.Where == 0
}

func bookProd(g api.Grammar, p api.Prod) bool {
	if p.Left <= g.Terms || p.Left >= len(g.Symbols) || len(p.Right) > 10 {
		return false
	}
	for _, n := range p.Right {
		if n <= 0 || n == g.Terms || n >= len(g.Symbols) {
			return false
		}
	}
	if p.Prec != -1 && (p.Prec <= 0 || p.Prec >= g.Terms) {
		return false
	}
	if p.Where < 0 || !p.Has && p.Action != "" || !p.Has && p.Where != 0 {
		return false
	}
	return true
}
