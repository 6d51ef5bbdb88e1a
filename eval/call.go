package eval

import (
	"slices"

	"gristmill/api"
	"gristmill/num"
)

const mostElements = 1024

// knownBeforehand are the functions that no file declares.
func knownBeforehand() map[string]func(*runner, []cell) cell {
	return map[string]func(*runner, []cell) cell{
		"len":     (*runner).length,
		"append":  (*runner).append,
		"float64": (*runner).toFloat,
		"panic":   (*runner).panics,
	}
}

// call tells all results.
func (r *runner) call(n *api.Node) []cell {
	args := r.all(n.Kids)
	if f, ok := r.known[n.Text]; ok {
		return []cell{f(r, args)}
	}
	return r.enter(r.functions[n.Text], args)
}

// enter goes through a function's body, till a return, or to its end.
func (r *runner) enter(f *api.Node, args []cell) (results []cell) {
	r.must(r.calls < api.MaxCalls, api.ErrStack)
	many := len(r.declared)
	defer func() {
		r.calls--
		if r.isUnderWay(api.NodeReturn, "") {
			recover()
			results = r.leap.values
			r.land(many)
		}
	}()
	r.calls++
	for i, param := range f.Kids[0].Kids {
		r.declare(param.Text, args[i])
	}
	r.block(&f.Kids[2])
	r.drop(many)
	return nil
}

func (r *runner) length(args []cell) cell {
	if args[0].kind == api.TypeString {
		return intOf(int64(len(args[0].text)))
	}
	return intOf(int64(len(args[0].row.parts)))
}

func (r *runner) append(args []cell) cell {
	behind := args[1:]
	r.spend(manyOf(behind))
	ahead := args[0].row.parts
	r.must(len(ahead)+len(behind) <= mostElements, api.ErrFull)
	return sliceOf(slices.Concat(ahead, behind))
}

func (r *runner) toFloat(args []cell) cell { return floatOf(num.FromInt(args[0].num)) }

func (r *runner) panics(args []cell) cell {
	r.leaps(leap{kind: aFault, err: api.ErrPanic, text: args[0].text})
	return cell{}
}
