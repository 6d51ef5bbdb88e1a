package check

import (
	"gristmill/api"
	"gristmill/scope"
)

// checker is what is known of a file, and of the function whose body is gone through. Its scope has that function's variables.
type checker struct {
	*scope.Scope
	structs   map[string]*structure
	functions map[string]signature
	asks      map[api.NodeKind]func(*checker, api.Node)
	declared  []map[string]int // of each open block the places where its names were declared
	body
}

// signature is what a function takes and tells.
type signature struct{ params, results []api.Type }

// body is what is known of a function while its body is gone through.
type body struct {
	results []api.Type
	around  []*outer
	labels  map[string]struct{} // of all fors so far
}

// outer is a for or a switch that is around what is gone through, and whether a break or a continue named it.
type outer struct {
	kind  api.NodeKind
	label string
	named bool
}

func newChecker() *checker {
	return &checker{
		Scope:     scope.New(),
		structs:   map[string]*structure{},
		functions: map[string]signature{},
		asks:      statements(),
	}
}

// file goes through a file four times.
func (c *checker) file(n api.Node) {
	c.names(n)
	c.structures(n)
	for _, f := range kidsOf(n, api.NodeFunc) {
		c.takesAndTells(f)
	}
	for _, f := range kidsOf(n, api.NodeFunc) {
		c.function(f)
	}
}

func (c *checker) names(n api.Node) {
	for _, kid := range n.Kids {
		must(kid.Text != "init" && !c.isTaken(kid.Text), api.ErrTwice, kid)
		if kid.Kind == api.NodeStruct {
			c.structs[kid.Text] = &structure{fields: map[string]api.Type{}}
		} else {
			c.functions[kid.Text] = signatureOf(kid)
		}
	}
}

// isTaken tells the names that nothing may have that is declared, in whatever block.
func (c *checker) isTaken(name string) bool {
	_, isStruct := c.structs[name]
	_, isFunction := c.functions[name]
	return isStruct || isFunction || isKnownBeforehand(name)
}

func isKnownBeforehand(name string) bool {
	switch name {
	case "int", "bool", "string", "float64", "len", "append", "panic":
		return true
	}
	return false
}

func signatureOf(f api.Node) signature {
	var s signature
	for _, p := range f.Kids[0].Kids {
		s.params = append(s.params, typeOf(p.Kids[0]))
	}
	for _, r := range f.Kids[1].Kids {
		s.results = append(s.results, typeOf(r))
	}
	return s
}

func (c *checker) takesAndTells(f api.Node) {
	for _, p := range f.Kids[0].Kids {
		c.typeNames(p.Kids[0])
	}
	for _, r := range f.Kids[1].Kids {
		c.typeNames(r)
	}
}

// typeNames asks a type what it is made of.
func (c *checker) typeNames(n api.Node) {
	for n.Kind == api.NodeSlice {
		n = n.Kids[0]
	}
	_, isPlain := plainKind(n.Text)
	_, isStruct := c.structs[n.Text]
	must(isPlain || isStruct, api.ErrName, n)
}

func (c *checker) function(n api.Node) {
	results := c.functions[n.Text].results
	c.body = body{results: results, labels: map[string]struct{}{}}
	c.open()
	for _, p := range n.Kids[0].Kids {
		c.declare(p.Text, typeOf(p.Kids[0]), p)
		c.Use(p.Text)
	}
	c.each(n.Kids[2].Kids)
	c.close()
	must(len(results) == 0 || endsAll(n.Kids[2]), api.ErrReturn, n)
}

func (c *checker) open() {
	c.Open()
	c.declared = append(c.declared, map[string]int{})
}

func (c *checker) close() {
	unused, _ := c.Close()
	last := len(c.declared) - 1
	if len(unused) > 0 {
		panic(api.Fault{Err: api.ErrUnused, At: c.declared[last][unused[0]]})
	}
	c.declared = c.declared[:last]
}

func (c *checker) declare(name string, t api.Type, at api.Node) {
	must(!c.isTaken(name) && c.Declare(name, t) == api.OK, api.ErrTwice, at)
	c.declared[len(c.declared)-1][name] = at.At
}
