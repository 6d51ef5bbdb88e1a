package lex

import "strings"

// place is where in a source one is, and where the token that is read there began.
type place struct {
	source   string
	from, at int
}

func (p *place) begin() { p.from = p.at }

func (p *place) step(n int) { p.at += n }

func (p *place) atEnd() bool { return p.at == len(p.source) }

func (p *place) taken() string { return p.source[p.from:p.at] }

func (p *place) startsWith(text string) bool {
	return strings.HasPrefix(p.source[p.at:], text)
}

func (p *place) pass(goesBy func(c byte) bool) {
	for !p.atEnd() && goesBy(p.source[p.at]) {
		p.step(1)
	}
}

// passLine stops ahead of the line's end, as that is no part of a comment.
func (p *place) passLine() {
	p.pass(func(c byte) bool { return c != lineEnd })
}
