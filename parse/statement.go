package parse

import (
	"gristmill/api"
)

func (p *parser) block() api.Node {
	at := p.need("{").At
	return api.Node{Kind: api.NodeBlock, At: at, Kids: p.row(";", "}", p.statement)}
}

func (p *parser) statement() api.Node {
	switch {
	case p.at("{"):
		return p.block()
	case p.at("var"):
		return p.variable()
	case p.at("if"):
		return p.branch()
	case p.at("for"):
		return p.loop("", p.next().At)
	case p.at("switch"):
		return p.choice()
	case p.at("return"):
		return p.answer()
	case p.at("break"):
		return p.leap(api.NodeBreak)
	case p.at("continue"):
		return p.leap(api.NodeContinue)
	}
	return p.simple()
}

func (p *parser) variable() api.Node {
	at := p.need("var").At
	n := api.Node{Kind: api.NodeVar, Text: p.name().Text, At: at, Kids: []api.Node{p.readType()}}
	if p.takes("=") {
		n.Kids = append(n.Kids, p.expression())
	}
	return n
}

func (p *parser) branch() api.Node {
	at := p.need("if").At
	n := api.Node{Kind: api.NodeIf, At: at, Kids: []api.Node{p.inHead(), p.block()}}
	if !p.takes("else") {
		return n
	}
	if p.at("if") {
		n.Kids = append(n.Kids, p.branch())
	} else {
		n.Kids = append(n.Kids, p.block())
	}
	return n
}

// loop is called with the place of its label, if it has one.
func (p *parser) loop(label string, at int) api.Node {
	n := api.Node{Kind: api.NodeFor, Text: label, At: at}
	p.need("for")
	if !p.at("{") {
		n.Kids = append(n.Kids, p.inHead())
	}
	n.Kids = append(n.Kids, p.block())
	return n
}

func (p *parser) choice() api.Node {
	at := p.need("switch").At
	n := api.Node{Kind: api.NodeSwitch, At: at, Kids: []api.Node{p.inHead()}}
	p.need("{")
	for !p.takes("}") {
		n.Kids = append(n.Kids, p.readCase())
	}
	return n
}

func (p *parser) readCase() api.Node {
	n := api.Node{Kind: api.NodeCase, At: p.next().At}
	if !p.takes("default") {
		p.need("case")
		n.Kids = p.some(p.expression)
	}
	p.need(":")
	n.Kids = append(n.Kids, p.caseBlock())
	return n
}

func (p *parser) caseBlock() api.Node {
	var kids []api.Node
	for !p.at("case", "default", "}") {
		kids = append(kids, p.statement())
		if !p.at("}") {
			p.need(";")
		}
	}
	return group(api.NodeBlock, kids)
}

func (p *parser) answer() api.Node {
	n := api.Node{Kind: api.NodeReturn, At: p.need("return").At}
	if !p.at(";", "}") {
		n.Kids = p.some(p.expression)
	}
	return n
}

func (p *parser) leap(kind api.NodeKind) api.Node {
	n := api.Node{Kind: kind, At: p.take().At}
	if p.next().Kind == api.TokName {
		n.Text = p.take().Text
	}
	return n
}

// simple reads a statement that no word tells: what stands behind its first token does.
func (p *parser) simple() api.Node {
	first := p.placeToken()
	if first.Kind == api.TokName && p.takes(":") {
		return p.loop(first.Text, first.At)
	}
	if first.Kind == api.TokName && p.at("(") {
		return group(api.NodeDo, []api.Node{p.call(first)})
	}
	places := []api.Node{p.place(first)}
	for p.takes(",") {
		places = append(places, p.place(p.placeToken()))
	}
	if areNames(places) && p.takes(":=") {
		return p.definition(places)
	}
	p.need("=")
	return p.assignment(places)
}

func (p *parser) definition(names []api.Node) api.Node {
	n := group(api.NodeDefine, names)
	n.Num = len(names)
	if n.Num == 1 {
		n.Kids = append(n.Kids, p.expression())
	} else {
		n.Kids = append(n.Kids, p.call(p.name()))
	}
	return n
}

func (p *parser) assignment(places []api.Node) api.Node {
	n := group(api.NodeAssign, places)
	n.Num = len(places)
	inParentheses := p.at("(")
	x := p.expression()
	n.Kids = append(n.Kids, x)
	if x.Kind == api.NodeCall && !inParentheses && !p.at(",") {
		return n
	}
	for range n.Num - 1 {
		p.need(",")
		n.Kids = append(n.Kids, p.expression())
	}
	return n
}

func areNames(places []api.Node) bool {
	for _, n := range places {
		if n.Kind != api.NodeName {
			return false
		}
	}
	return true
}

// placeToken reads the token that a place begins with.
func (p *parser) placeToken() api.Token {
	kind := p.next().Kind
	p.must(kind == api.TokName || kind == api.TokDollar && p.dollars)
	return p.take()
}

func (p *parser) place(first api.Token) api.Node {
	n := leaf(first)
	for p.at("[", ".") {
		n = p.partOf(n, false)
	}
	return n
}
