package lex

import "gristmill/api"

// doings are what those bytes of an action do that do more than go by; each is called behind its byte.
func (r *reader) doings() map[byte]func() {
	return map[byte]func(){
		'{': r.openBrace,
		'}': r.closeBrace,
		'"': r.passString,
		'/': r.passSlash,
	}
}

// readAction begins at the action's own {, which is the first that opens.
func (r *reader) readAction() {
	r.readWithin()
	for r.open > 0 {
		r.readWithin()
	}
	text := r.taken()
	r.put(api.TokAction, text[1:len(text)-1])
}

func (r *reader) readWithin() {
	if do, ok := r.does[r.take()]; ok {
		do()
	}
}

// take tells the next byte, and steps behind it; within an action there must be one.
func (r *reader) take() byte {
	r.must(!r.atEnd())
	c := r.source[r.at]
	r.step(1)
	return c
}

func (r *reader) openBrace() { r.open++ }

func (r *reader) closeBrace() { r.open-- }

// passSlash lets a comment go by, if a second / makes it one.
func (r *reader) passSlash() {
	if r.startsWith("/") {
		r.passLine()
	}
}

func (r *reader) passString() {
	for c := r.take(); c != '"'; c = r.take() {
		r.must(c != lineEnd)
		if c == '\\' {
			r.take()
		}
	}
}
