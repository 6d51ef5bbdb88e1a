package eval_test

import (
	"math"
	"strconv"
	"strings"

	"gristmill/api"
	"gristmill/value"
)

// several are the values of a row: a call in it alone may have more than one.
func (b *book) several(env bookBlocks, row []api.Node) []api.Value {
	if len(row) == 1 && row[0].Kind == api.NodeCall {
		b.cost(1)
		return b.call(env, row[0])
	}
	var out []api.Value
	for _, x := range row {
		out = append(out, b.one(env, x))
	}
	return out
}

func (b *book) one(env bookBlocks, n api.Node) api.Value {
	b.cost(1)
	switch n.Kind {
	case api.NodeInt:
		i, _ := strconv.ParseInt(n.Text, 10, 64)
		return anInt(i)
	case api.NodeFloat:
		f, _ := strconv.ParseFloat(n.Text, 64)
		return bookFloatOf(f)
	case api.NodeString:
		return aString(n.Text)
	case api.NodeBool:
		return aBool(int64(n.Num))
	case api.NodeName:
		return *env.find(n.Text)
	case api.NodeUnary:
		v := b.one(env, n.Kids[0])
		switch v.Kind {
		case api.TypeInt:
			return anInt(-v.Num)
		case api.TypeFloat:
			return bookFloatOf(math.Copysign(bookFloat(v), map[bool]float64{true: 1, false: -1}[math.Signbit(bookFloat(v))]))
		}
		return aBool(1 - v.Num)
	case api.NodeBinary:
		return b.binary(env, n)
	case api.NodeCall:
		return b.call(env, n)[0]
	case api.NodeIndex, api.NodeUpTo:
		s := b.one(env, n.Kids[0])
		i := b.one(env, n.Kids[1]).Num
		if n.Kind == api.NodeIndex && i >= 0 && i < int64(len(s.Parts)) {
			return s.Parts[i]
		}
		if n.Kind == api.NodeUpTo && i >= 0 && i <= int64(len(s.Parts)) {
			return value.Copy(aSlice(s.Parts[:i]...))
		}
		panic(stop{err: api.ErrIndex})
	case api.NodePart:
		v := b.one(env, n.Kids[0])
		return v.Parts[b.field(v.Name, n.Text)]
	case api.NodeList:
		v := aSlice()
		for _, x := range n.Kids[1:] {
			v.Parts = append(v.Parts, value.Copy(b.one(env, x)))
		}
		b.cost(bookMany(v))
		b.isRoom(len(v.Parts))
		return v
	}
	return b.make(env, n)
}

func (b *book) isRoom(many int) {
	if many > 1024 {
		panic(stop{err: api.ErrFull})
	}
}

func (b *book) make(env bookBlocks, n api.Node) api.Value {
	v, ok := value.Zero(b.file, api.Type{Kind: api.TypeStruct, Name: n.Text})
	if !ok {
		panic("no zero " + n.Text)
	}
	for _, key := range n.Kids {
		v.Parts[b.field(n.Text, key.Text)] = value.Copy(b.one(env, key.Kids[0]))
	}
	b.cost(bookMany(v))
	return v
}

func bookFloatOf(f float64) api.Value {
	if f != f {
		return aFloat(0x7ff8000000000001)
	}
	return aFloat(math.Float64bits(f))
}

func (b *book) binary(env bookBlocks, n api.Node) api.Value {
	x := b.one(env, n.Kids[0])
	switch {
	case n.Text == "&&" && x.Num == 0:
		return aBool(0)
	case n.Text == "||" && x.Num == 1:
		return aBool(1)
	}
	y := b.one(env, n.Kids[1])
	switch n.Text {
	case "&&", "||":
		return y
	case "+", "-", "*", "/", "%":
		return b.arithmetic(n.Text, x, y)
	}
	if bookCompares(n.Text, x, y) {
		return aBool(1)
	}
	return aBool(0)
}

func (b *book) arithmetic(op string, x, y api.Value) api.Value {
	switch x.Kind {
	case api.TypeString:
		b.cost(len(x.Text) + len(y.Text))
		return aString(x.Text + y.Text)
	case api.TypeFloat:
		f, g := bookFloat(x), bookFloat(y)
		return bookFloatOf(map[string]float64{"+": f + g, "-": f - g, "*": f * g, "/": f / g}[op])
	}
	switch op {
	case "+":
		return anInt(x.Num + y.Num)
	case "-":
		return anInt(x.Num - y.Num)
	case "*":
		return anInt(x.Num * y.Num)
	}
	if y.Num == 0 {
		panic(stop{err: api.ErrDivide})
	}
	if op == "/" {
		return anInt(x.Num / y.Num)
	}
	return anInt(x.Num % y.Num)
}

func bookCompares(op string, x, y api.Value) bool {
	less, same := x.Num < y.Num, x.Num == y.Num
	more := !less && !same
	switch x.Kind {
	case api.TypeString:
		less, same, more = x.Text < y.Text, x.Text == y.Text, x.Text > y.Text
	case api.TypeFloat:
		f, g := bookFloat(x), bookFloat(y)
		less, same, more = f < g, f == g, f > g
	}
	switch op {
	case "==":
		return same
	case "!=":
		return !same
	}
	return strings.HasPrefix(op, "<") && less || strings.HasPrefix(op, ">") && more || len(op) == 2 && same
}

func (b *book) call(env bookBlocks, n api.Node) []api.Value {
	var args []api.Value
	for _, x := range n.Kids {
		args = append(args, value.Copy(b.one(env, x)))
	}
	switch n.Text {
	case "len":
		return []api.Value{anInt(int64(len(args[0].Text) + len(args[0].Parts)))}
	case "float64":
		return []api.Value{bookFloatOf(float64(args[0].Num))}
	case "panic":
		panic(stop{api.ErrPanic, args[0].Text})
	case "append":
		for _, v := range args[1:] {
			b.cost(bookMany(v)) // one by one: no fault comes between
		}
		b.isRoom(len(args[0].Parts) + len(args) - 1)
		return []api.Value{aSlice(append(args[0].Parts, args[1:]...)...)}
	}
	return b.enter(n.Text, args)
}
