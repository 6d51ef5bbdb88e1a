package expand

import (
	"slices"
	"strings"

	"gristmill/api"
)

// longest is how many bytes the text of a word that is wanted may have.
const longest = 1000

// made is a word that is resolved; one that is wanted has its template, and what that one's Params stand for.
type made struct {
	text string
	deep int
	rule *api.Rule
	args []made
}

// resolve is called with what some names stand for.
func (e *expander) resolve(w *api.Word, stand map[string]made) made {
	var done []made
	walk{
		enter: func(x *api.Word, _ int) { must(len(x.Args) == e.asked(x.Name, stand), api.ErrParams, x.At) },
		leave: func(x *api.Word) {
			ahead := len(done) - len(x.Args)
			done = append(done[:ahead], e.one(x, done[ahead:], stand))
		},
		endless: func(x *api.Word) { must(false, api.ErrDeep, x.At) },
	}.through(w)
	return done[0]
}

// asked is how many Args a word of this name must have.
func (e *expander) asked(name string, stand map[string]made) int {
	if _, stands := stand[name]; stands || !e.isTemplate(name) {
		return 0
	}
	return len(e.rules[name].Params)
}

func (e *expander) one(w *api.Word, args []made, stand map[string]made) made {
	if m, stands := stand[w.Name]; stands {
		return m
	}
	if e.isTemplate(w.Name) {
		return e.want(w, args)
	}
	return made{text: e.own(w.Name), deep: 1}
}

func (e *expander) want(w *api.Word, args []made) made {
	m := made{rule: e.rules[w.Name], args: slices.Clone(args)}
	long := len(w.Name) + 1
	var texts []string
	for _, a := range args {
		m.deep = max(m.deep, a.deep+1)
		long += len(a.text) + 1
		texts = append(texts, a.text)
	}
	must(m.deep <= api.MaxExpand, api.ErrDeep, w.At)
	must(long <= longest, api.ErrLong, w.At)
	m.text = w.Name + "(" + strings.Join(texts, ",") + ")"
	if _, ahead := e.waits[m.text]; !ahead {
		e.waits[m.text] = m
		e.row = append(e.row, m.text)
	}
	return m
}
