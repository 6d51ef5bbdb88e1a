package symbols

import (
	"gristmill/api"
)

// maker is a grammar as far as it is known. Its strings are the text's own until it is told: they are copied when there are not too many of them.
type maker struct {
	api.Grammar
	numbers map[string]int // of the symbols that a text may name; the end is none of them, so 0 is no symbol's
	level   int            // of the last Decl that had one
	started bool           // by a Decl
	start   int
}

func Make(t api.Text) (g api.Grammar, fault api.Fault) {
	defer func() {
		if met, ok := recover().(api.Fault); ok {
			g, fault = api.Grammar{}, met
		}
	}()
	m := maker{numbers: map[string]int{}}
	mustBeFlat(t.Rules)
	m.addTerminals(t.Decls)
	m.addNonterminals(t.Rules)
	m.learnRules(t.Decls)
	m.checkAlts(t.Rules)
	m.checkNumbers(t.Rules)
	m.tell(t.Rules)
	return m.Grammar, api.Fault{}
}

// throw ends all with the first of these errors, if one of them is one.
func throw(at int, errs ...api.Errno) {
	for _, err := range errs {
		if err != api.OK {
			panic(api.Fault{Err: err, At: at})
		}
	}
}

func unless(ok bool, err api.Errno) api.Errno {
	if ok {
		return api.OK
	}
	return err
}

func mustBeFlat(rules []api.Rule) {
	for i := range rules {
		r := &rules[i]
		throw(r.At, unless(len(r.Params) == 0, api.ErrParams))
		for _, a := range r.Alts {
			for n := range a.Words {
				w := &a.Words[n]
				throw(w.At, unless(len(w.Args) == 0, api.ErrParams))
			}
		}
	}
}

func (m *maker) addTerminals(decls []api.Decl) {
	m.Symbols = []api.Symbol{{Name: endName}}
	for i := range decls {
		m.declare(&decls[i])
	}
	m.Terms = len(m.Symbols)
}

func (m *maker) declare(d *api.Decl) {
	switch d.Kind {
	case "token":
		throw(d.At, unless(d.Type == "" || isType(d.Type), api.ErrType))
		for _, name := range d.Names {
			m.addNew(api.Symbol{Name: name, Type: d.Type}, d.At)
		}
	case "left":
		m.bind(d, api.AssocLeft)
	case "right":
		m.bind(d, api.AssocRight)
	case "nonassoc":
		m.bind(d, api.AssocNon)
	case "type":
		throw(d.At, unless(isType(d.Type), api.ErrType))
	case "start":
		throw(d.At, unless(len(d.Names) == 1 && !m.started, api.ErrStart))
		m.started = true
	default:
		throw(d.At, api.ErrArg)
	}
}

func (m *maker) bind(d *api.Decl, how api.Assoc) {
	throw(d.At, unless(d.Type == "", api.ErrType))
	m.level++
	for _, name := range d.Names {
		// What is no symbol yet has the number 0, which is the end's, and that one has no level.
		throw(d.At, unless(mayBeNamed(name), api.ErrSymbol), unless(m.Symbols[m.numbers[name]].Level == 0, api.ErrTwice))
		if m.numbers[name] == 0 {
			m.add(api.Symbol{Name: name})
		}
		s := &m.Symbols[m.numbers[name]]
		s.Level, s.Assoc = m.level, how
	}
}

func (m *maker) addNew(s api.Symbol, at int) {
	throw(at, unless(mayBeNamed(s.Name), api.ErrSymbol), unless(m.numbers[s.Name] == 0, api.ErrTwice))
	m.add(s)
}

func (m *maker) add(s api.Symbol) {
	m.numbers[s.Name] = len(m.Symbols)
	m.Symbols = append(m.Symbols, s)
}

func (m *maker) addNonterminals(rules []api.Rule) {
	m.Symbols = append(m.Symbols, api.Symbol{Name: acceptName})
	for i := range rules {
		m.addNew(api.Symbol{Name: rules[i].Name}, rules[i].At)
	}
	throw(0, unless(len(rules) > 0, api.ErrStart))
	m.start = m.Terms + 1
}

// learnRules learns what Decls say of rules.
func (m *maker) learnRules(decls []api.Decl) {
	for i := range decls {
		switch d := &decls[i]; d.Kind {
		case "type":
			m.giveType(d)
		case "start":
			m.start = m.numbers[d.Names[0]]
			throw(d.At, unless(isRule(m.Grammar, m.start), api.ErrStart))
		}
	}
}

func (m *maker) giveType(d *api.Decl) {
	for _, name := range d.Names {
		n := m.numbers[name]
		throw(d.At, unless(isRule(m.Grammar, n), api.ErrSymbol), unless(m.Symbols[n].Type == "", api.ErrTwice))
		m.Symbols[n].Type = d.Type
	}
}

func (m *maker) checkAlts(rules []api.Rule) {
	for i := range rules {
		for n := range rules[i].Alts {
			m.checkAlt(&rules[i].Alts[n])
		}
	}
}

func (m *maker) checkAlt(a *api.Alt) {
	throw(a.At, unless(len(a.Words) <= api.MaxRight, api.ErrMany))
	for i := range a.Words {
		w := &a.Words[i]
		throw(w.At, unless(m.numbers[w.Name] != 0, api.ErrSymbol))
	}
	throw(a.At, unless(a.Prec == "" || isTerm(m.Grammar, m.numbers[a.Prec]), api.ErrSymbol))
}

func (m *maker) checkNumbers(rules []api.Rule) {
	prods := 1
	for i := range rules {
		prods += len(rules[i].Alts)
	}
	throw(0,
		unless(m.Terms <= api.MaxSymbols, api.ErrMany),
		unless(len(m.Symbols)-m.Terms <= api.MaxSymbols, api.ErrMany),
		unless(prods <= api.MaxProds, api.ErrMany))
}
