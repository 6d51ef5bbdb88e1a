package check

import (
	"slices"

	"gristmill/api"
)

// statements are what each statement asks.
func statements() map[api.NodeKind]func(*checker, api.Node) {
	return map[api.NodeKind]func(*checker, api.Node){
		api.NodeBlock:    (*checker).block,
		api.NodeVar:      (*checker).variable,
		api.NodeDefine:   (*checker).definition,
		api.NodeAssign:   (*checker).assignment,
		api.NodeIf:       (*checker).branch,
		api.NodeFor:      (*checker).loop,
		api.NodeSwitch:   (*checker).choice,
		api.NodeReturn:   (*checker).answer,
		api.NodeBreak:    (*checker).breaking,
		api.NodeContinue: (*checker).continuing,
		api.NodeDo:       (*checker).doing,
	}
}

func (c *checker) each(row []api.Node) {
	for _, n := range row {
		c.asks[n.Kind](c, n)
	}
}

func (c *checker) block(n api.Node) {
	c.open()
	c.each(n.Kids)
	c.close()
}

func (c *checker) variable(n api.Node) {
	c.typeNames(n.Kids[0])
	t := typeOf(n.Kids[0])
	for _, x := range n.Kids[1:] {
		c.want(x, t)
	}
	c.declare(n.Text, t, n)
}

func (c *checker) definition(n api.Node) {
	x := n.Kids[n.Num]
	types := c.expression(x)
	must(len(types) == n.Num, api.ErrCount, x)
	for i, name := range n.Kids[:n.Num] {
		c.declare(name.Text, types[i], name)
	}
}

func (c *checker) assignment(n api.Node) {
	var types []api.Type
	begun := map[string]struct{}{}
	for _, place := range n.Kids[:n.Num] {
		types = append(types, c.place(place))
		name := beginning(place)
		_, twice := begun[name]
		must(!twice, api.ErrTwice, place)
		begun[name] = struct{}{}
	}
	c.wantAll(n.Kids[n.Num:], types)
}

// place looks at a variable that is set as a whole: that uses it not.
func (c *checker) place(n api.Node) api.Type {
	if n.Kind != api.NodeName {
		return c.value(n)
	}
	t, ok := c.Look(n.Text)
	must(ok, api.ErrName, n)
	return t
}

// beginning is the name of the variable that a place is, or lies in.
func beginning(place api.Node) string {
	for place.Kind != api.NodeName {
		place = place.Kids[0]
	}
	return place.Text
}

// isOneForAll tells a call that stands for more values than one.
func isOneForAll(row []api.Node, types []api.Type) bool {
	return len(types) > 1 && len(row) == 1 && row[0].Kind == api.NodeCall
}

// wantAll asks as many expressions as there are types, or one call for all of them.
func (c *checker) wantAll(row []api.Node, types []api.Type) {
	if !isOneForAll(row, types) {
		for i, x := range row {
			c.want(x, types[i])
		}
		return
	}
	call := row[0]
	told := c.expression(call)
	must(len(told) == len(types), api.ErrCount, call)
	must(slices.EqualFunc(told, types, SameType), api.ErrType, call)
}

func (c *checker) branch(n api.Node) {
	c.want(n.Kids[0], plain(api.TypeBool))
	c.each(n.Kids[1:])
}

func (c *checker) loop(n api.Node) {
	if n.Text != "" {
		_, twice := c.labels[n.Text]
		must(!twice, api.ErrTwice, n)
		c.labels[n.Text] = struct{}{}
	}
	last := len(n.Kids) - 1
	for _, x := range n.Kids[:last] {
		c.want(x, plain(api.TypeBool))
	}
	in := c.within(n, n.Kids[last])
	must(n.Text == "" || in.named, api.ErrUnused, n)
}

// within goes through a block of a for or a switch.
func (c *checker) within(n, block api.Node) *outer {
	in := &outer{kind: n.Kind, label: n.Text}
	c.around = append(c.around, in)
	c.block(block)
	c.around = c.around[:len(c.around)-1]
	return in
}

func (c *checker) choice(n api.Node) {
	t := c.value(n.Kids[0])
	must(isPlain(t), api.ErrType, n.Kids[0])
	others := 0
	ahead := map[literal]struct{}{}
	for _, one := range n.Kids[1:] {
		last := len(one.Kids) - 1
		if last == 0 {
			others++
		}
		must(last > 0 || others == 1, api.ErrTwice, one)
		for _, x := range one.Kids[:last] {
			c.want(x, t)
			takeLiteral(ahead, x)
		}
		c.within(n, one.Kids[last])
	}
}

// takeLiteral puts what a case's expression says behind what those ahead of it said, if it says it by itself.
func takeLiteral(ahead map[literal]struct{}, x api.Node) {
	l, ok := literalOf(x)
	if !ok {
		return
	}
	_, twice := ahead[l]
	must(!twice, api.ErrCase, x)
	ahead[l] = struct{}{}
}

func (c *checker) answer(n api.Node) {
	must(len(n.Kids) == len(c.results) || isOneForAll(n.Kids, c.results), api.ErrCount, n)
	c.wantAll(n.Kids, c.results)
}

func (c *checker) breaking(n api.Node) { c.leap(n, api.NodeFor, api.NodeSwitch) }

func (c *checker) continuing(n api.Node) { c.leap(n, api.NodeFor) }

// leap is a break or a continue, which has to be in something of these kinds, or names the for that it is of.
func (c *checker) leap(n api.Node, kinds ...api.NodeKind) {
	if n.Text == "" {
		must(slices.ContainsFunc(c.around, func(a *outer) bool { return slices.Contains(kinds, a.kind) }), api.ErrLoop, n)
		return
	}
	i := slices.IndexFunc(c.around, func(a *outer) bool { return a.label == n.Text })
	must(i >= 0, api.ErrName, n)
	c.around[i].named = true
}

func (c *checker) doing(n api.Node) {
	call := n.Kids[0]
	switch call.Text {
	case "len", "append", "float64":
		must(false, api.ErrUnused, call)
	}
	c.expression(call)
}
