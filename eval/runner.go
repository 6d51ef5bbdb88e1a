package eval

import (
	"gristmill/api"
	"gristmill/check"
	"gristmill/value"
)

// runner is what is known of a file that runs, and how far it has come.
type runner struct {
	file      api.Node
	functions map[string]*api.Node
	fields    map[field]int     // where they stand among the Parts
	zeros     map[string]cell   // by the names of their types, as far as they were asked for
	variables map[string][]cell // by their names: the last one hides the others
	declared  []string          // of the variables that are there, in their order
	calls     int               // in one another
	fuel      int
	left      int   // of the fuel
	leap      *leap // that is under way, or none

	statements  map[api.NodeKind]func(*runner, *api.Node)
	expressions map[api.NodeKind]func(*runner, *api.Node) cell
	known       map[string]func(*runner, []cell) cell
}

// field is one of a struct, by the names of both.
type field struct{ in, name string }

func newRunner(file api.Node, fuel int) *runner {
	r := &runner{
		file:        file,
		functions:   map[string]*api.Node{},
		fields:      map[field]int{},
		zeros:       map[string]cell{},
		variables:   map[string][]cell{},
		fuel:        fuel,
		left:        fuel,
		statements:  statements(),
		expressions: expressions(),
		known:       knownBeforehand(),
	}
	for i := range file.Kids {
		kid := &file.Kids[i]
		if kid.Kind == api.NodeFunc {
			r.functions[kid.Text] = kid
			continue
		}
		for k, f := range kid.Kids {
			r.fields[field{kid.Text, f.Text}] = k
		}
	}
	return r
}

// spend takes steps from the fuel, ahead of what they are for.
func (r *runner) spend(steps int) {
	if steps > r.left {
		r.left = 0
		r.fail(api.ErrFuel)
	}
	r.left -= steps
}

// zero is a type's zero value. All slices have one.
func (r *runner) zero(t api.Node) cell {
	zero, ok := r.zeros[t.Text]
	if !ok {
		of, _ := check.TypeOf(t)
		v, _ := value.Zero(r.file, of)
		zero = take(v)
		share(zero)
		r.zeros[t.Text] = zero
	}
	return zero
}

func (r *runner) declare(name string, c cell) {
	share(c)
	r.variables[name] = append(r.variables[name], c)
	r.declared = append(r.declared, name)
}

// drop ends all variables but the first ones, so many.
func (r *runner) drop(many int) {
	for i := len(r.declared) - 1; i >= many; i-- {
		name := r.declared[i]
		row := r.variables[name]
		r.variables[name] = row[:len(row)-1]
	}
	r.declared = r.declared[:many]
}

// variable is the one that a name stands for: a function names none but its own, which hide those of the calls around it.
func (r *runner) variable(name string) *cell {
	row := r.variables[name]
	return &row[len(row)-1]
}
