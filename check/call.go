package check

import (
	"gristmill/api"
)

// call tells the types of a call's results.
func (c *checker) call(n api.Node) []api.Type {
	if f, ok := c.functions[n.Text]; ok {
		must(len(n.Kids) == len(f.params), api.ErrCount, n)
		for i, x := range n.Kids {
			c.want(x, f.params[i])
		}
		return f.results
	}
	if n.Text == "append" {
		return []api.Type{c.appending(n)}
	}
	return c.callKnown(n)
}

// callKnown is of a call of a function that is known beforehand and takes one value.
func (c *checker) callKnown(n api.Node) []api.Type {
	switch n.Text {
	case "len", "panic", "float64":
		must(len(n.Kids) == 1, api.ErrCount, n)
	default:
		must(false, api.ErrName, n)
	}
	x := n.Kids[0]
	t := c.value(x)
	switch n.Text {
	case "len":
		must(t.Kind == api.TypeString || t.Kind == api.TypeSlice, api.ErrType, x)
		return []api.Type{plain(api.TypeInt)}
	case "float64":
		must(t.Kind == api.TypeInt, api.ErrType, x)
		return []api.Type{plain(api.TypeFloat)}
	}
	must(t.Kind == api.TypeString, api.ErrType, x)
	return nil
}

func (c *checker) appending(n api.Node) api.Type {
	must(len(n.Kids) >= 2, api.ErrCount, n)
	t := c.value(n.Kids[0])
	must(t.Kind == api.TypeSlice, api.ErrType, n.Kids[0])
	for _, x := range n.Kids[1:] {
		c.want(x, t.Elem[0])
	}
	return t
}
