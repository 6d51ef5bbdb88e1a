package scope

import (
	"slices"
	"strings"

	"gristmill/api"
)

// row is a list of types, by where it lies.
type row struct {
	first *api.Type
	many  int
}

// task is a type that shares what it is made of till that is copied, or (of nil) a row whose elements are all done.
type task struct {
	of   *api.Type
	done row
}

// copied is a type in memory of its own. It is gone through with a stack of its own: a call within a call for each Elem could go too deep.
func copied(t api.Type) api.Type {
	around := map[row][]api.Type{}
	todo := []task{{of: &t}}
	for len(todo) > 0 {
		last := len(todo) - 1
		now := todo[last]
		todo = todo[:last]
		if now.of == nil {
			delete(around, now.done)
			continue
		}
		todo = append(todo, apart(now.of, around)...)
	}
	return t
}

// apart copies what a type is made of, and answers what is to be done behind it. A row that lies within itself has no end: it becomes a copy that lies within itself.
func apart(t *api.Type, around map[row][]api.Type) []task {
	t.Name = strings.Clone(t.Name)
	if len(t.Elem) == 0 {
		t.Elem = nil
		return nil
	}
	here := row{&t.Elem[0], len(t.Elem)}
	if again, ok := around[here]; ok {
		t.Elem = again
		return nil
	}
	t.Elem = slices.Clone(t.Elem)
	around[here] = t.Elem
	next := []task{{done: here}}
	for i := range t.Elem {
		next = append(next, task{of: &t.Elem[i]})
	}
	return next
}
