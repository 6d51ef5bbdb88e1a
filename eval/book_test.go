package eval_test

import (
	"math"

	"gristmill/api"
	"gristmill/check"
	"gristmill/value"
)

// What the document says, in its own order, by functions that call themselves: each value is copied wherever it is assigned, given or told.

type book struct {
	file  api.Node
	left  int
	calls int
}

// stop ends all at once.
type stop struct {
	err  api.Errno
	text string
}

// goes is how a statement ends: to its end (of the Kind 0), or by a NodeReturn, a NodeBreak, a NodeContinue.
type goes struct {
	kind   api.NodeKind
	label  string
	values []api.Value
}

type bookBlocks []map[string]*api.Value

func (e bookBlocks) find(name string) *api.Value {
	for i := len(e) - 1; i >= 0; i-- {
		if v, ok := e[i][name]; ok {
			return v
		}
	}
	panic("no " + name)
}

func (e bookBlocks) declare(name string, v api.Value) {
	v = value.Copy(v)
	e[len(e)-1][name] = &v
}

func bookRun(file api.Node, fn string, fuel int, args ...api.Value) (out api.Outcome) {
	if check.File(file).Err != api.OK {
		return api.Outcome{Err: api.ErrShape}
	}
	params, _, ok := check.Signature(file, fn)
	if !ok {
		return api.Outcome{Err: api.ErrNone}
	}
	if len(params) != len(args) {
		return api.Outcome{Err: api.ErrCount}
	}
	for i, t := range params {
		if !value.Is(file, args[i], t) {
			return api.Outcome{Err: api.ErrArg}
		}
	}
	if fuel < 0 {
		return api.Outcome{Err: api.ErrArg}
	}
	b := &book{file: file, left: fuel}
	defer func() {
		if s, ok := recover().(stop); ok {
			out = api.Outcome{Err: s.err, Text: s.text}
		}
		out.Steps = fuel - b.left
	}()
	return api.Outcome{Values: b.enter(fn, args)}
}

func (b *book) cost(n int) {
	if b.left < n {
		b.left = 0
		panic(stop{err: api.ErrFuel})
	}
	b.left -= n
}

func (b *book) function(name string) (api.Node, bool) {
	for _, n := range b.file.Kids {
		if n.Kind == api.NodeFunc && n.Text == name {
			return n, true
		}
	}
	return api.Node{}, false
}

func (b *book) enter(fn string, args []api.Value) []api.Value {
	if b.calls == 2000 {
		panic(stop{err: api.ErrStack})
	}
	b.calls++
	f, _ := b.function(fn)
	env := bookBlocks{{}}
	for i, p := range f.Kids[0].Kids {
		env.declare(p.Text, args[i])
	}
	g := b.each(env, f.Kids[2].Kids)
	b.calls--
	var out []api.Value
	for _, v := range g.values {
		out = append(out, value.Copy(v))
	}
	return out
}

func (b *book) each(env bookBlocks, row []api.Node) goes {
	for _, n := range row {
		if g := b.statement(env, n); g.kind != 0 {
			return g
		}
	}
	return goes{}
}

func (b *book) statement(env bookBlocks, n api.Node) goes {
	b.cost(1)
	switch n.Kind {
	case api.NodeBlock:
		return b.each(append(env[:len(env):len(env)], map[string]*api.Value{}), n.Kids)
	case api.NodeVar:
		if len(n.Kids) == 2 {
			env.declare(n.Text, b.one(env, n.Kids[1]))
			break
		}
		t, _ := check.TypeOf(n.Kids[0])
		zero, _ := value.Zero(b.file, t)
		b.cost(bookMany(zero))
		env.declare(n.Text, zero)
	case api.NodeDefine:
		for i, v := range b.several(env, n.Kids[n.Num:]) {
			env.declare(n.Kids[i].Text, v)
		}
	case api.NodeAssign:
		b.assign(env, n)
	case api.NodeIf:
		if b.one(env, n.Kids[0]).Num == 1 {
			return b.statement(env, n.Kids[1])
		}
		if len(n.Kids) > 2 {
			return b.statement(env, n.Kids[2])
		}
	case api.NodeFor:
		return b.loop(env, n)
	case api.NodeSwitch:
		g := b.choice(env, n)
		if g.kind == api.NodeBreak && g.label == "" {
			return goes{}
		}
		return g
	case api.NodeReturn:
		return goes{n.Kind, "", b.several(env, n.Kids)}
	case api.NodeBreak, api.NodeContinue:
		return goes{n.Kind, n.Text, nil}
	case api.NodeDo:
		b.cost(1)
		b.call(env, n.Kids[0])
	}
	return goes{}
}

func (b *book) loop(env bookBlocks, n api.Node) goes {
	for {
		if len(n.Kids) == 2 && b.one(env, n.Kids[0]).Num == 0 {
			return goes{}
		}
		g := b.statement(env, n.Kids[len(n.Kids)-1])
		own := g.label == "" || g.label == n.Text
		switch {
		case g.kind == api.NodeBreak && own:
			return goes{}
		case g.kind != 0 && !(g.kind == api.NodeContinue && own):
			return g
		}
		b.cost(1)
	}
}

func (b *book) choice(env bookBlocks, n api.Node) goes {
	v := b.one(env, n.Kids[0])
	other := -1
	for i, c := range n.Kids[1:] {
		last := len(c.Kids) - 1
		if last == 0 {
			other = i + 1
		}
		for _, x := range c.Kids[:last] {
			if bookCompares("==", v, b.one(env, x)) {
				return b.statement(env, c.Kids[last])
			}
		}
	}
	if other < 0 {
		return goes{}
	}
	return b.statement(env, n.Kids[other].Kids[0])
}

func (b *book) assign(env bookBlocks, n api.Node) {
	var indexes [][]int64
	for _, p := range n.Kids[:n.Num] {
		var row []int64
		b.indexes(env, p, &row)
		indexes = append(indexes, row)
	}
	var values []api.Value
	for _, v := range b.several(env, n.Kids[n.Num:]) {
		values = append(values, value.Copy(v))
	}
	for i, p := range n.Kids[:n.Num] {
		if p.Kind != api.NodeName {
			b.cost(bookMany(values[i]))
		}
		*b.place(env, p, &indexes[i]) = values[i]
	}
}

func (b *book) indexes(env bookBlocks, p api.Node, row *[]int64) {
	if p.Kind == api.NodeName {
		return
	}
	b.indexes(env, p.Kids[0], row)
	if p.Kind == api.NodeIndex {
		*row = append(*row, b.one(env, p.Kids[1]).Num)
	}
}

func (b *book) place(env bookBlocks, p api.Node, row *[]int64) *api.Value {
	if p.Kind == api.NodeName {
		return env.find(p.Text)
	}
	in := b.place(env, p.Kids[0], row)
	if p.Kind == api.NodePart {
		return &in.Parts[b.field(in.Name, p.Text)]
	}
	i := (*row)[0]
	*row = (*row)[1:]
	if i < 0 || i >= int64(len(in.Parts)) {
		panic(stop{err: api.ErrIndex})
	}
	return &in.Parts[i]
}

func (b *book) field(in, name string) int {
	for _, s := range b.file.Kids {
		for i, f := range s.Kids {
			if s.Kind == api.NodeStruct && s.Text == in && f.Text == name {
				return i
			}
		}
	}
	panic("no " + in + "." + name)
}

func bookMany(v api.Value) int {
	many := 1
	for _, part := range v.Parts {
		many += bookMany(part)
	}
	return many
}

func bookFloat(v api.Value) float64 { return math.Float64frombits(v.Bits) }
