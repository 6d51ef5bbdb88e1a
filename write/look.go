package write

import (
	"gristmill/api"
	"gristmill/lex"
)

// most is how many bytes a text's names, actions and alternatives may come to. As lists may lie in a text in many places, a few of them may say more than any memory holds: R7 has no promise of that, but the call must end.
const most = 1<<31 - 1

// look goes through a text ahead of its being written, and ends where it may not be.
type look struct {
	names map[string]struct{} // those that are known to be names: most stand in a text often
	said  int
}

func must(ok bool) {
	if !ok {
		panic(api.ErrShape)
	}
}

func (l *look) says(much int) {
	l.said += much
	must(l.said <= most)
}

func (l *look) text(t api.Text) {
	for _, d := range t.Decls {
		l.decl(d)
	}
	for _, r := range t.Rules {
		l.rule(r)
	}
}

func (l *look) decl(d api.Decl) {
	switch d.Kind {
	case "token":
		l.perhapsName(d.Type)
	case "type":
		l.name(d.Type)
	case "left", "right", "nonassoc", "start":
		must(d.Type == "")
	default:
		must(false)
	}
	must(len(d.Names) > 0)
	for _, name := range d.Names {
		l.name(name)
	}
}

func (l *look) rule(r api.Rule) {
	l.name(r.Name)
	for _, name := range r.Params {
		l.name(name)
	}
	must(len(r.Alts) > 0)
	for _, a := range r.Alts {
		l.alt(a)
	}
}

func (l *look) alt(a api.Alt) {
	l.words(a.Words, 0)
	l.perhapsName(a.Prec)
	if a.Has {
		mustBeAction(a.Action)
	} else {
		must(a.Action == "")
	}
	l.says(len("\t|\n") + len(a.Action))
}

// words is called with how many words these stand in.
func (l *look) words(words []api.Word, around int) {
	must(len(words) == 0 || around <= api.MaxNest)
	for _, x := range words {
		l.name(x.Name)
		l.words(x.Args, around+1)
	}
}

func (l *look) perhapsName(s string) {
	if s != "" {
		l.name(s)
	}
}

// name asks lex: what is told as one token, and nothing beside it, is a name.
func (l *look) name(s string) {
	if _, known := l.names[s]; !known {
		tokens, fault := lex.Tokens(s)
		must(fault.Err == api.OK && tokens[0] == api.Token{Kind: api.TokName, Text: s})
		l.names[s] = struct{}{}
	}
	l.says(len(s) + 1)
}
