package value

import (
	"gristmill/api"
)

// row is a list of values, by where it lies.
type row struct {
	first *api.Value
	many  int
}

func rowOf(parts []api.Value) row {
	if len(parts) == 0 {
		return row{}
	}
	return row{&parts[0], len(parts)}
}

// level is a value whose Parts are gone through, and how many of them were.
type level struct {
	api.Value
	gone int
}

// walk goes through a value with a stack of its own: a call within a call for each Part could go too deep. enter is told each value, and its place among the Parts around it; what it answers true of, leave is told behind its Parts. A value that lies within itself is unfit: it has no end.
func walk(v api.Value, enter func(at int, v api.Value) bool, leave func(v api.Value)) {
	around := map[row]struct{}{}
	levels := []level{{Value: api.Value{Parts: []api.Value{v}}}}
	for {
		last := len(levels) - 1
		in := levels[last]
		if in.gone < len(in.Parts) {
			levels[last].gone++
			if part := in.Parts[in.gone]; enter(in.gone, part) {
				_, again := around[rowOf(part.Parts)]
				must(!again)
				around[rowOf(part.Parts)] = struct{}{}
				levels = append(levels, level{Value: part})
			}
			continue
		}
		if last == 0 {
			return
		}
		levels = levels[:last]
		delete(around, rowOf(in.Parts))
		leave(in.Value)
	}
}
