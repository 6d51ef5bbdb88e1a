package value

import (
	"slices"
	"strings"

	"gristmill/api"
)

// Same goes through two rows once: Parts may lie in many places, or within themselves.
func Same(a, b api.Value) bool {
	type two struct{ a, b []api.Value }
	asked := map[[2]row]struct{}{}
	todo := []two{{[]api.Value{a}, []api.Value{b}}}
	for len(todo) > 0 {
		last := len(todo) - 1
		now := todo[last]
		todo = todo[:last]
		for i, x := range now.a {
			y := now.b[i]
			if !areAlike(x, y) {
				return false
			}
			rows := [2]row{rowOf(x.Parts), rowOf(y.Parts)}
			if _, again := asked[rows]; !again {
				asked[rows] = struct{}{}
				todo = append(todo, two{x.Parts, y.Parts})
			}
		}
	}
	return true
}

// areAlike asks of two values all but what their Parts are.
func areAlike(a, b api.Value) bool {
	return a.Kind == b.Kind && a.Num == b.Num && a.Text == b.Text && a.Bits == b.Bits && a.Name == b.Name && len(a.Parts) == len(b.Parts)
}

// copying is a row of a copy, those of it that still share what the given one of them has, and where that one lies.
type copying struct {
	from row
	left []api.Value
}

// Copy makes of a row that lies within itself one that does so, too: it has no end.
func Copy(v api.Value) api.Value {
	out := []api.Value{v}
	around := map[row][]api.Value{}
	todo := []copying{{left: out}}
	for len(todo) > 0 {
		in := &todo[len(todo)-1]
		if len(in.left) == 0 {
			delete(around, in.from)
			todo = todo[:len(todo)-1]
			continue
		}
		part := &in.left[0]
		in.left = in.left[1:]
		part.Text, part.Name = strings.Clone(part.Text), strings.Clone(part.Name)
		from := rowOf(part.Parts)
		if again, ok := around[from]; ok {
			part.Parts = again
			continue
		}
		part.Parts = slices.Clone(part.Parts)
		if len(part.Parts) > 0 {
			around[from] = part.Parts
			todo = append(todo, copying{from, part.Parts})
		}
	}
	return out[0]
}
