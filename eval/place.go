package eval

import (
	"gristmill/api"
)

func (r *runner) assign(n *api.Node) {
	places := n.Kids[:n.Num]
	ways := make([]way, n.Num)
	for i := range places {
		r.ask(&places[i], &ways[i])
	}
	values := r.values(n.Kids[n.Num:])
	share(values...) // a place that is set must not change what is put into the next one
	for i := range places {
		r.put(&places[i], &ways[i], values[i])
	}
}

// way is how a place is come to.
type way struct {
	indexes []int64 // in the order in which they are gone by
	rows    []*row  // that were gone through
}

// ask makes out the indexes of a place.
func (r *runner) ask(place *api.Node, w *way) {
	if place.Kind == api.NodeName {
		return
	}
	r.ask(&place.Kids[0], w)
	if place.Kind == api.NodeIndex {
		w.indexes = append(w.indexes, r.value(&place.Kids[1]).num)
	}
}

// put sets a place. The rows around it have more values in them, or fewer, then.
func (r *runner) put(place *api.Node, w *way, c cell) {
	if place.Kind != api.NodeName {
		r.spend(c.many())
	}
	at := r.reach(place, w)
	more := c.many() - at.many()
	for _, around := range w.rows {
		around.many += more
	}
	*at = c
}

// reach is where a place is, all rows on the way there being its variable's alone.
func (r *runner) reach(place *api.Node, w *way) *cell {
	if place.Kind == api.NodeName {
		return r.variable(place.Text)
	}
	in := r.reach(&place.Kids[0], w).own()
	w.rows = append(w.rows, in)
	if place.Kind == api.NodePart {
		return &in.parts[r.fields[field{in.name, place.Text}]]
	}
	i := w.indexes[0]
	w.indexes = w.indexes[1:]
	return &in.parts[r.index(i, len(in.parts))]
}

// index is a number that is from 0 to below so many.
func (r *runner) index(i int64, below int) int {
	r.must(i >= 0 && i < int64(below), api.ErrIndex)
	return int(i)
}
