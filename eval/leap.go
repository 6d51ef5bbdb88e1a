package eval

import (
	"gristmill/api"
)

// aFault is the kind of leaps that no statement makes.
const aFault api.NodeKind = 0

// leap is what is panicked with, and ends at a place further out: a NodeReturn at its call, a NodeBreak at its for or switch, a NodeContinue at its round of a for, a fault at the run.
type leap struct {
	kind   api.NodeKind
	label  string
	values []cell // of a NodeReturn
	err    api.Errno
	text   string // of ErrPanic
}

// leaps lets those who wait further out know what is under way, so that none of them has to recover what is not its own.
func (r *runner) leaps(l leap) {
	r.leap = &l
	panic(&l)
}

func (r *runner) fail(e api.Errno) { r.leaps(leap{kind: aFault, err: e}) }

func (r *runner) must(ok bool, e api.Errno) {
	if !ok {
		r.fail(e)
	}
}

// isUnderWay tells whether a leap is of that kind, and names that label or none.
func (r *runner) isUnderWay(kind api.NodeKind, label string) bool {
	l := r.leap
	return l != nil && l.kind == kind && (l.label == "" || l.label == label)
}

// land ends a leap where so many variables are there.
func (r *runner) land(many int) {
	r.leap = nil
	r.drop(many)
}
