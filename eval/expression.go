package eval

import (
	"slices"

	"gristmill/api"
	"gristmill/num"
)

// expressions are what each expression comes to.
func expressions() map[api.NodeKind]func(*runner, *api.Node) cell {
	return map[api.NodeKind]func(*runner, *api.Node) cell{
		api.NodeInt:    (*runner).whole,
		api.NodeFloat:  (*runner).pointed,
		api.NodeString: (*runner).text,
		api.NodeBool:   (*runner).truth,
		api.NodeName:   (*runner).name,
		api.NodeUnary:  (*runner).unary,
		api.NodeBinary: (*runner).binary,
		api.NodeCall:   (*runner).one,
		api.NodeIndex:  (*runner).element,
		api.NodeUpTo:   (*runner).upTo,
		api.NodePart:   (*runner).part,
		api.NodeList:   (*runner).list,
		api.NodeMake:   (*runner).make,
	}
}

func (r *runner) value(n *api.Node) cell {
	r.spend(1)
	return r.expressions[n.Kind](r, n)
}

func (r *runner) isSo(n *api.Node) bool { return r.value(n).num == 1 }

// all are the values of expressions.
func (r *runner) all(row []api.Node) []cell {
	var out []cell
	for i := range row {
		out = append(out, r.value(&row[i]))
	}
	return out
}

// values are those of expressions, or of one call, which may have more results than one.
func (r *runner) values(row []api.Node) []cell {
	if len(row) != 1 || row[0].Kind != api.NodeCall {
		return r.all(row)
	}
	r.spend(1)
	return r.call(&row[0])
}

func (r *runner) whole(n *api.Node) cell {
	i, _ := num.ReadInt(n.Text)
	return intOf(i)
}

func (r *runner) pointed(n *api.Node) cell {
	bits, _ := num.ReadFloat(n.Text)
	return floatOf(bits)
}

func (r *runner) text(n *api.Node) cell { return stringOf(n.Text) }

func (r *runner) truth(n *api.Node) cell { return boolOf(n.Num == 1) }

func (r *runner) name(n *api.Node) cell { return *r.variable(n.Text) }

func (r *runner) one(n *api.Node) cell {
	results := r.call(n)
	if len(results) == 0 {
		return cell{} // a NodeDo's: nobody asks for it
	}
	return results[0]
}

func (r *runner) element(n *api.Node) cell {
	s, i := r.value(&n.Kids[0]), r.value(&n.Kids[1])
	return s.row.parts[r.index(i.num, len(s.row.parts))]
}

func (r *runner) upTo(n *api.Node) cell {
	s, i := r.value(&n.Kids[0]), r.value(&n.Kids[1])
	many := r.index(i.num, len(s.row.parts)+1)
	return sliceOf(slices.Clone(s.row.parts[:many]))
}

func (r *runner) part(n *api.Node) cell {
	s := r.value(&n.Kids[0])
	return s.row.parts[r.fields[field{s.row.name, n.Text}]]
}

func (r *runner) list(n *api.Node) cell {
	made := sliceOf(r.all(n.Kids[1:]))
	r.spend(made.many())
	r.must(len(made.row.parts) <= mostElements, api.ErrFull)
	return made
}

func (r *runner) make(n *api.Node) cell {
	zero := r.zero(api.Node{Kind: api.NodeType, Text: n.Text})
	parts := slices.Clone(zero.row.parts)
	for i := range n.Kids {
		key := &n.Kids[i]
		parts[r.fields[field{n.Text, key.Text}]] = r.value(&key.Kids[0])
	}
	made := structOf(n.Text, parts)
	r.spend(made.many())
	return made
}
