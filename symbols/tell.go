package symbols

import (
	"strings"

	"gristmill/api"
)

// owned is a string of its own memory.
type owned struct{ string }

// owner copies each string once: many actions may be one.
type owner map[string]owned

func (o owner) own(s string) string {
	own, ok := o[s]
	if !ok {
		own = owned{strings.Clone(s)}
		o[s] = own
	}
	return own.string
}

// tell is called with rules that have no fault.
func (m *maker) tell(rules []api.Rule) {
	o := owner{}
	m.Prods = []api.Prod{{Left: m.Terms, Right: []int{m.start}, Prec: -1}}
	for i := range rules {
		for n := range rules[i].Alts {
			m.Prods = append(m.Prods, m.prod(m.numbers[rules[i].Name], &rules[i].Alts[n], o))
		}
	}
	for i := range m.Symbols {
		s := &m.Symbols[i]
		s.Name, s.Type = o.own(s.Name), o.own(s.Type)
	}
}

func (m *maker) prod(left int, a *api.Alt, o owner) api.Prod {
	p := api.Prod{Left: left, Prec: -1}
	for i := range a.Words {
		n := m.numbers[a.Words[i].Name]
		p.Right = append(p.Right, n)
		if m.Symbols[n].Level > 0 {
			p.Prec = n
		}
	}
	if a.Prec != "" {
		p.Prec = m.numbers[a.Prec]
	}
	if a.Has {
		p.Has, p.Action, p.Where = true, o.own(a.Action), a.Where
	}
	return p
}
