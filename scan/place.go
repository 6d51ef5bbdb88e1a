package scan

import "strings"

// place is where in a source one is, and where what is read there began.
type place struct {
	source   string
	from, at int
}

func (p *place) begin() { p.from = p.at }

func (p *place) step(n int) { p.at += n }

func (p *place) atEnd() bool { return p.at == len(p.source) }

func (p *place) taken() string { return p.source[p.from:p.at] }

// look tells the byte that stands n behind; where none does 0, which no token goes on with.
func (p *place) look(n int) byte {
	if p.at+n >= len(p.source) {
		return 0
	}
	return p.source[p.at+n]
}

// take tells the next byte, and steps behind it.
func (p *place) take() byte {
	c := p.look(0)
	p.step(1)
	return c
}

// piece is the next n bytes, or as many as there are.
func (p *place) piece(n int) string {
	return p.source[p.at:min(p.at+n, len(p.source))]
}

func (p *place) startsWith(text string) bool {
	return strings.HasPrefix(p.source[p.at:], text)
}

// pass tells the bytes that went by.
func (p *place) pass(goesBy func(c byte) bool) string {
	first := p.at
	for !p.atEnd() && goesBy(p.source[p.at]) {
		p.step(1)
	}
	return p.source[first:p.at]
}
