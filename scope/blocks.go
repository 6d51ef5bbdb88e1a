package scope

import (
	"strings"

	"gristmill/api"
)

// blocks are those that are open, the innermost behind the others.
type blocks []*block

// block has its names in the order in which they were declared, and what each stands for.
type block struct {
	order []string
	names map[string]*meaning
}

// meaning is what a name stands for where it was declared, and whether it was used.
type meaning struct {
	of   api.Type
	used bool
}

func (b *blocks) push() {
	*b = append(*b, &block{names: map[string]*meaning{}})
}

func (b *blocks) pop() *block {
	in := b.innermost()
	last := len(*b) - 1
	(*b)[last] = nil // else the row keeps what is closed
	*b = (*b)[:last]
	return in
}

func (b blocks) innermost() *block { return b[len(b)-1] }

// outward goes through the blocks, from the innermost on.
func (b blocks) outward(yield func(in *block) bool) {
	for i := range b {
		if !yield(b[len(b)-1-i]) {
			return
		}
	}
}

func (b *block) add(name string, t api.Type) bool {
	if _, ok := b.names[name]; ok {
		return false
	}
	name = strings.Clone(name)
	b.order = append(b.order, name)
	b.names[name] = &meaning{of: copied(t)}
	return true
}

func (b *block) unused() []string {
	var out []string
	for _, name := range b.order {
		if !b.names[name].used {
			out = append(out, name)
		}
	}
	return out
}
