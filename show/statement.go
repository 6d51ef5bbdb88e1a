package show

import (
	"gristmill/api"
)

// word is what tells a kind of statement, ahead of its other texts or between them.
type word struct{ text string }

func words() map[api.NodeKind]word {
	return map[api.NodeKind]word{
		api.NodeVar:      {"var"},
		api.NodeDefine:   {":="},
		api.NodeAssign:   {"="},
		api.NodeIf:       {"if"},
		api.NodeFor:      {"for"},
		api.NodeSwitch:   {"switch"},
		api.NodeReturn:   {"return"},
		api.NodeBreak:    {"break"},
		api.NodeContinue: {"continue"},
	}
}

// statement writes one from where it begins on its line to where its last line goes on.
func (w *writer) statement(n api.Node) {
	said := w.words[n.Kind].text
	switch n.Kind {
	case api.NodeBlock:
		w.block(n)
	case api.NodeVar:
		w.put(said, " ")
		w.field(n)
		w.perhaps(" = ", n.Kids[1:])
	case api.NodeDefine, api.NodeAssign:
		w.row(n.Kids[:n.Num], w.whole)
		w.put(" ", said, " ")
		w.row(n.Kids[n.Num:], w.whole)
	case api.NodeIf:
		w.put(said, " ")
		w.branch(n)
	case api.NodeFor:
		w.loop(said, n)
	case api.NodeSwitch:
		w.put(said, " ")
		w.choice(n)
	case api.NodeReturn:
		w.put(said)
		w.perhaps(" ", n.Kids)
	case api.NodeBreak, api.NodeContinue:
		w.put(said)
		if n.Text != "" {
			w.put(" ", n.Text)
		}
	case api.NodeDo:
		w.whole(n.Kids[0])
	}
}

// perhaps writes a row and what stands ahead of it, or nothing where there is no row.
func (w *writer) perhaps(ahead string, kids []api.Node) {
	if len(kids) > 0 {
		w.put(ahead)
		w.row(kids, w.whole)
	}
}

func (w *writer) block(n api.Node) { w.braces(n.Kids, w.statement) }

// inHead writes the x of a head, and the blank ahead of the { behind it.
func (w *writer) inHead(x api.Node) {
	w.head = true
	w.whole(x)
	w.head = false
	w.put(" ")
}

func (w *writer) branch(n api.Node) {
	w.inHead(n.Kids[0])
	w.block(n.Kids[1])
	if len(n.Kids) > 2 {
		w.put(" else ")
		w.statement(n.Kids[2])
	}
}

func (w *writer) loop(said string, n api.Node) {
	if n.Text != "" {
		w.put(n.Text, ": ")
	}
	w.put(said, " ")
	if len(n.Kids) > 1 {
		w.inHead(n.Kids[0])
	}
	w.block(n.Kids[len(n.Kids)-1])
}

// choice writes no braces as a block's are: a case stands as far in as its switch.
func (w *writer) choice(n api.Node) {
	w.inHead(n.Kids[0])
	w.put("{\n")
	for _, c := range n.Kids[1:] {
		w.indent()
		w.caseLine(c.Kids[:len(c.Kids)-1])
		w.held++
		w.lines(c.Kids[len(c.Kids)-1].Kids, w.statement)
		w.held--
	}
	w.indent()
	w.put("}")
}

func (w *writer) caseLine(values []api.Node) {
	if len(values) == 0 {
		w.put("default")
	}
	w.perhaps("case ", values)
	w.put(":\n")
}
