package show

import (
	"strings"

	"gristmill/api"
)

// writer is the text so far, and what hangs on where it goes on.
type writer struct {
	strings.Builder
	words map[api.NodeKind]word
	held  int  // how many blocks, structs, switches hold the next line
	head  bool // an x of a head is written: a { behind a name would not be its own
}

func (w *writer) put(texts ...string) {
	for _, s := range texts {
		w.WriteString(s)
	}
}

func (w *writer) indent() { w.put(strings.Repeat("\t", w.held)) }

// lines writes each one on a line of its own.
func (w *writer) lines(kids []api.Node, one func(n api.Node)) {
	for _, n := range kids {
		w.indent()
		one(n)
		w.put("\n")
	}
}

// braces writes lines further in, up to the } that ends them: its own line goes on.
func (w *writer) braces(kids []api.Node, one func(n api.Node)) {
	w.put("{\n")
	w.held++
	w.lines(kids, one)
	w.held--
	w.indent()
	w.put("}")
}

func (w *writer) row(kids []api.Node, one func(n api.Node)) {
	for i, n := range kids {
		if i > 0 {
			w.put(", ")
		}
		one(n)
	}
}

// within writes a row between two signs, where a head's rule does not hold.
func (w *writer) within(open string, kids []api.Node, one func(n api.Node), shut string) {
	head := w.head
	w.head = false
	w.put(open)
	w.row(kids, one)
	w.put(shut)
	w.head = head
}
