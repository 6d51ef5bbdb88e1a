package parse

import (
	"gristmill/api"
	"gristmill/num"
)

// levels are the operators between two operands, and how strongly they bind.
var levels = [...]struct {
	sign  string
	binds int
}{
	{"||", 1},
	{"&&", 2},
	{"==", 3}, {"!=", 3}, {"<", 3}, {"<=", 3}, {">", 3}, {">=", 3},
	{"+", 4}, {"-", 4},
	{"*", 5}, {"/", 5}, {"%", 5},
}

func (p *parser) expression() api.Node { return p.binary(1) }

func (p *parser) inHead() api.Node {
	p.head = true
	n := p.expression()
	p.head = false
	return n
}

// binary leaves operators that bind less than is asked for to whoever called it.
func (p *parser) binary(least int) api.Node {
	left := p.unary()
	for binds := p.binds(); binds >= least; binds = p.binds() {
		sign := p.take()
		left = api.Node{Kind: api.NodeBinary, Text: sign.Text, At: left.At, Kids: []api.Node{left, p.binary(binds + 1)}}
	}
	return left
}

// binds tells how strongly the next token binds, 0 of one that is no such operator.
func (p *parser) binds() int {
	for _, l := range levels {
		if p.at(l.sign) {
			return l.binds
		}
	}
	return 0
}

func (p *parser) unary() api.Node {
	if !p.at("-", "!") {
		return p.part()
	}
	sign := p.take()
	return api.Node{Kind: api.NodeUnary, Text: sign.Text, At: sign.At, Kids: []api.Node{p.unary()}}
}

func (p *parser) part() api.Node {
	n := p.first()
	for p.at("[", ".") {
		n = p.partOf(n, true)
	}
	return n
}

// partOf reads what stands behind an expression as a part of it; a place has no such part as [:x].
func (p *parser) partOf(of api.Node, upTo bool) api.Node {
	n := api.Node{At: of.At, Kids: []api.Node{of}}
	if p.takes(".") {
		n.Kind, n.Text = api.NodePart, p.name().Text
		return n
	}
	p.need("[")
	n.Kind = api.NodeIndex
	if upTo && p.takes(":") {
		n.Kind = api.NodeUpTo
	}
	p.within("]", func() { n.Kids = append(n.Kids, p.expression()) })
	return n
}

func (p *parser) first() api.Node {
	switch {
	case p.at("("):
		return p.parentheses()
	case p.at("["):
		return p.list()
	case p.at("true", "false"):
		return leaf(p.take())
	}
	switch p.next().Kind {
	case api.TokName:
		return p.named()
	case api.TokInt, api.TokFloat, api.TokString:
		return leaf(p.take())
	}
	p.must(p.next().Kind == api.TokDollar && p.dollars)
	return leaf(p.take())
}

func (p *parser) parentheses() (n api.Node) {
	at := p.take().At
	p.within(")", func() { n = p.expression() })
	n.At = at
	return n
}

func (p *parser) list() api.Node {
	kind := p.slice()
	p.need("{")
	kids := p.row(",", "}", p.expression)
	return api.Node{Kind: api.NodeList, At: kind.At, Kids: append([]api.Node{kind}, kids...)}
}

func (p *parser) named() api.Node {
	name := p.take()
	switch {
	case p.at("("):
		return p.call(name)
	case p.at("{") && !p.head:
		return p.making(name)
	}
	return leaf(name)
}

func (p *parser) call(name api.Token) api.Node {
	p.need("(")
	return api.Node{Kind: api.NodeCall, Text: name.Text, At: name.At, Kids: p.row(",", ")", p.expression)}
}

func (p *parser) making(name api.Token) api.Node {
	p.need("{")
	keys := p.row(",", "}", func() api.Node {
		field := p.name()
		p.need(":")
		return api.Node{Kind: api.NodeKey, Text: field.Text, At: field.At, Kids: []api.Node{p.expression()}}
	})
	return api.Node{Kind: api.NodeMake, Text: name.Text, At: name.At, Kids: keys}
}

// leaf is the node of one token.
func leaf(t api.Token) api.Node {
	switch t.Kind {
	case api.TokInt:
		return api.Node{Kind: api.NodeInt, Text: t.Text, At: t.At}
	case api.TokFloat:
		return api.Node{Kind: api.NodeFloat, Text: t.Text, At: t.At}
	case api.TokString:
		return api.Node{Kind: api.NodeString, Text: t.Text, At: t.At}
	case api.TokDollar:
		return api.Node{Kind: api.NodeDollar, Num: dollar(t.Text), At: t.At}
	case api.TokName:
		return api.Node{Kind: api.NodeName, Text: t.Text, At: t.At}
	}
	n := api.Node{Kind: api.NodeBool, At: t.At}
	if t.Text == "true" {
		n.Num = 1
	}
	return n
}

// dollar is 0 of $$, which is what a text of no digits is read as.
func dollar(text string) int {
	n, _ := num.ReadInt(text)
	return int(n)
}
