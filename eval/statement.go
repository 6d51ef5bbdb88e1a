package eval

import (
	"gristmill/api"
)

// statements are what each statement does.
func statements() map[api.NodeKind]func(*runner, *api.Node) {
	return map[api.NodeKind]func(*runner, *api.Node){
		api.NodeBlock:    (*runner).block,
		api.NodeVar:      (*runner).begin,
		api.NodeDefine:   (*runner).define,
		api.NodeAssign:   (*runner).assign,
		api.NodeIf:       (*runner).branch,
		api.NodeFor:      (*runner).loop,
		api.NodeSwitch:   (*runner).choose,
		api.NodeReturn:   (*runner).answer,
		api.NodeBreak:    (*runner).leave,
		api.NodeContinue: (*runner).leave,
		api.NodeDo:       (*runner).perform,
	}
}

func (r *runner) do(n *api.Node) {
	r.spend(1)
	r.statements[n.Kind](r, n)
}

func (r *runner) block(n *api.Node) {
	many := len(r.declared)
	for i := range n.Kids {
		r.do(&n.Kids[i])
	}
	r.drop(many)
}

func (r *runner) begin(n *api.Node) {
	if len(n.Kids) == 2 {
		r.declare(n.Text, r.value(&n.Kids[1]))
		return
	}
	zero := r.zero(n.Kids[0])
	r.spend(zero.many())
	r.declare(n.Text, zero)
}

func (r *runner) define(n *api.Node) {
	values := r.values(n.Kids[n.Num:])
	for i, name := range n.Kids[:n.Num] {
		r.declare(name.Text, values[i])
	}
}

func (r *runner) branch(n *api.Node) {
	if r.isSo(&n.Kids[0]) {
		r.do(&n.Kids[1])
	} else if len(n.Kids) == 3 {
		r.do(&n.Kids[2])
	}
}

func (r *runner) loop(n *api.Node) {
	many := len(r.declared)
	defer func() {
		if r.isUnderWay(api.NodeBreak, n.Text) {
			recover()
			r.land(many)
		}
	}()
	last := len(n.Kids) - 1
	for last == 0 || r.isSo(&n.Kids[0]) {
		r.round(n.Text, &n.Kids[last])
		r.spend(1)
	}
}

// round goes once through a block of a for, to its end or to a continue.
func (r *runner) round(label string, block *api.Node) {
	many := len(r.declared)
	defer func() {
		if r.isUnderWay(api.NodeContinue, label) {
			recover()
			r.land(many)
		}
	}()
	r.do(block)
}

func (r *runner) choose(n *api.Node) {
	many := len(r.declared)
	defer func() {
		if r.isUnderWay(api.NodeBreak, "") {
			recover()
			r.land(many)
		}
	}()
	c := r.chosen(r.value(&n.Kids[0]), n.Kids[1:])
	if c != nil {
		r.do(&c.Kids[len(c.Kids)-1])
	}
}

// chosen asks the cases' expressions, as far as needed.
func (r *runner) chosen(v cell, cases []api.Node) *api.Node {
	var other *api.Node
	for i := range cases {
		c := &cases[i]
		last := len(c.Kids) - 1
		if last == 0 {
			other = c
		}
		for k := range last {
			if compare("==", v, r.value(&c.Kids[k])) {
				return c
			}
		}
	}
	return other
}

func (r *runner) answer(n *api.Node) {
	r.leaps(leap{kind: n.Kind, values: r.values(n.Kids)})
}

func (r *runner) leave(n *api.Node) {
	r.leaps(leap{kind: n.Kind, label: n.Text})
}

func (r *runner) perform(n *api.Node) { r.value(&n.Kids[0]) }
