package parse

import (
	"slices"

	"gristmill/api"
)

// end is the text of the token behind all others.
const end = ""

// parser is the tokens that were not read yet, and what may stand there.
type parser struct {
	tokens  []api.Token
	dollars bool
	head    bool // an x of a head is read: a { behind a name is not its own
}

func (p *parser) next() api.Token { return p.tokens[0] }

// take is called of a token that was looked at, but of the last one: behind that there is none to look at.
func (p *parser) take() api.Token {
	t := p.next()
	p.tokens = p.tokens[1:]
	return t
}

// at tells whether one of these words or signs is next.
func (p *parser) at(texts ...string) bool {
	switch t := p.next(); t.Kind {
	case api.TokWord, api.TokSign, api.TokEnd:
		return slices.Contains(texts, t.Text)
	}
	return false
}

func (p *parser) takes(text string) bool {
	if !p.at(text) {
		return false
	}
	p.take()
	return true
}

func (p *parser) need(text string) api.Token {
	p.must(p.at(text))
	return p.take()
}

func (p *parser) name() api.Token {
	p.must(p.next().Kind == api.TokName)
	return p.take()
}

// must refuses the next token, if it may not stand where it does.
func (p *parser) must(ok bool) {
	if !ok {
		panic(api.Fault{Err: api.ErrSyntax, At: p.next().At})
	}
}

// row reads things with something between them, which may stand behind the last one too, up to what ends them. They are within ( ) or { }, where a head's rule does not hold.
func (p *parser) row(between, last string, one func() api.Node) []api.Node {
	var kids []api.Node
	p.within(last, func() {
		for !p.at(last) {
			kids = append(kids, one())
			if !p.takes(between) {
				break
			}
		}
	})
	return kids
}

func (p *parser) within(last string, read func()) {
	head := p.head
	p.head = false
	read()
	p.need(last)
	p.head = head
}

// some reads one thing or more, with commas between them.
func (p *parser) some(one func() api.Node) []api.Node {
	kids := []api.Node{one()}
	for p.takes(",") {
		kids = append(kids, one())
	}
	return kids
}
