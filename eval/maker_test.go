package eval_test

import (
	"math/rand"
	"slices"
	"strconv"
	"strings"

	"gristmill/api"
)

// maker makes up programs that may be, most of which come to an end.
type maker struct {
	chance    *rand.Rand
	structs   []made
	functions []made
	at        int // which of them is made
	results   []api.Type
	blocks    [][]*variable
	labels    []*label
	inFor     bool
	inSwitch  bool
	names     int
}

// made is a struct with its fields (of), or a function with its parameters (of) and its results.
type made struct {
	name    string
	names   []string
	of      []api.Type
	results []api.Type
}

type variable struct {
	name string
	of   api.Type
	used bool
}

type label struct {
	name  string
	named bool
}

func plain(kind api.TypeKind) api.Type { return api.Type{Kind: kind} }

func slice(of api.Type) api.Type { return api.Type{Kind: api.TypeSlice, Elem: []api.Type{of}} }

func structure(name string) api.Type { return api.Type{Kind: api.TypeStruct, Name: name} }

func of(kind api.NodeKind, text string, kids ...api.Node) api.Node {
	return api.Node{Kind: kind, Text: text, Kids: kids}
}

func typed(s string) api.Node { return of(api.NodeType, s) }

func sliceNode(t api.Node) api.Node { return of(api.NodeSlice, "", t) }

func spellType(t api.Type) string {
	s := strconv.Itoa(int(t.Kind)) + t.Name
	for _, of := range t.Elem {
		s += "(" + spellType(of) + ")"
	}
	return s
}

func spellTypes(row []api.Type) string {
	var out []string
	for _, t := range row {
		out = append(out, spellType(t))
	}
	return strings.Join(out, " ")
}

func newMaker(seed int64) *maker {
	return &maker{chance: rand.New(rand.NewSource(seed))}
}

func (m *maker) one(of int) bool { return m.chance.Intn(of) == 0 }

func (m *maker) fresh(s string) string {
	m.names++
	return s + strconv.Itoa(m.names)
}

// name is one for a variable of the innermost block, which may hide one further out.
func (m *maker) name() string {
	last := len(m.blocks) - 1
	if out := m.blocks[m.chance.Intn(last+1)]; m.one(3) && len(out) > 0 {
		name := out[m.chance.Intn(len(out))].name
		if !slices.ContainsFunc(m.blocks[last], func(v *variable) bool { return v.name == name }) {
			return name
		}
	}
	return m.fresh("v")
}

func (m *maker) basic() api.Type {
	return plain([]api.TypeKind{api.TypeInt, api.TypeInt, api.TypeBool, api.TypeString, api.TypeFloat}[m.chance.Intn(5)])
}

func (m *maker) anyType() api.Type {
	t := m.basic()
	if m.one(4) && len(m.structs) > 0 {
		t = structure(m.structs[m.chance.Intn(len(m.structs))].name)
	}
	for m.one(4) {
		t = slice(t)
	}
	return t
}

func (m *maker) types(most int) []api.Type {
	var out []api.Type
	for range m.chance.Intn(most + 1) {
		out = append(out, m.anyType())
	}
	return out
}

// nodeOf is a type's node.
func nodeOf(t api.Type) api.Node {
	switch t.Kind {
	case api.TypeInt:
		return typed("int")
	case api.TypeBool:
		return typed("bool")
	case api.TypeString:
		return typed("string")
	case api.TypeFloat:
		return typed("float64")
	case api.TypeSlice:
		return sliceNode(nodeOf(t.Elem[0]))
	}
	return typed(t.Name)
}

func (m *maker) file() api.Node {
	n := of(api.NodeFile, "p")
	for i := range m.chance.Intn(4) {
		s := made{name: "s" + strconv.Itoa(i)}
		var fields []api.Node
		for k, t := range m.types(4) {
			s.names, s.of = append(s.names, "f"+strconv.Itoa(k)), append(s.of, t)
			fields = append(fields, of(api.NodeField, s.names[k], nodeOf(t)))
		}
		if m.one(3) {
			s.names, s.of = append(s.names, "own"), append(s.of, slice(structure(s.name)))
			fields = append(fields, of(api.NodeField, "own", sliceNode(typed(s.name))))
		}
		m.structs = append(m.structs, s)
		n.Kids = append(n.Kids, of(api.NodeStruct, s.name, fields...))
	}
	for i := range 1 + m.chance.Intn(4) {
		f := made{name: "g" + strconv.Itoa(i), of: m.types(3), results: m.types(3)}
		m.functions = append(m.functions, f)
	}
	for i, f := range m.functions {
		m.at = i
		n.Kids = append(n.Kids, m.function(f))
	}
	m.chance.Shuffle(len(n.Kids), func(i, k int) { n.Kids[i], n.Kids[k] = n.Kids[k], n.Kids[i] })
	return n
}

func (m *maker) function(f made) api.Node {
	m.results, m.inFor, m.inSwitch, m.labels = f.results, false, false, nil
	m.names = 0 // functions have names in common
	params, results := of(api.NodeParams, ""), of(api.NodeResults, "")
	m.blocks = [][]*variable{nil}
	for _, t := range f.of {
		name := m.fresh("p")
		params.Kids = append(params.Kids, of(api.NodeField, name, nodeOf(t)))
		m.blocks[0] = append(m.blocks[0], &variable{name, t, true})
	}
	for _, t := range f.results {
		results.Kids = append(results.Kids, nodeOf(t))
	}
	kids := append(append(m.statements(3), m.statements(3)...), m.ahead()...)
	if len(f.results) > 0 {
		kids = append(kids, m.ending(2))
	}
	return of(api.NodeFunc, f.name, params, results, of(api.NodeBlock, "", kids...))
}

// block is one with what stands at its end.
func (m *maker) block(deep int, behind func() []api.Node) api.Node {
	m.blocks = append(m.blocks, nil)
	kids := append(m.statements(deep-1), m.ahead()...)
	if behind != nil {
		kids = append(kids, behind()...)
	}
	m.blocks = m.blocks[:len(m.blocks)-1]
	return of(api.NodeBlock, "", kids...)
}

// ahead uses all variables of the innermost block that were not used.
func (m *maker) ahead() []api.Node {
	var out []api.Node
	for _, v := range m.blocks[len(m.blocks)-1] {
		if !v.used {
			v.used = true
			out = append(out, assign(1, of(api.NodeName, v.name), of(api.NodeName, v.name)))
		}
	}
	return out
}

func assign(num int, kids ...api.Node) api.Node {
	return api.Node{Kind: api.NodeAssign, Num: num, Kids: kids}
}

func (m *maker) ending(deep int) api.Node {
	block := func() api.Node {
		return m.block(deep, func() []api.Node { return []api.Node{m.ending(deep - 1)} })
	}
	if deep > 0 {
		switch m.chance.Intn(12) {
		case 0:
			return of(api.NodeIf, "", m.x(plain(api.TypeBool), 2, true), block(), block())
		case 1:
			return block()
		case 2:
			in, sw := m.inFor, m.inSwitch
			m.inFor, m.inSwitch = false, false // no break may leave it
			kept := m.labels
			m.labels = nil
			n := of(api.NodeFor, "", m.block(deep, nil))
			m.inFor, m.inSwitch, m.labels = in, sw, kept
			return n
		case 3:
			in, sw := m.inFor, m.inSwitch
			m.inFor, m.inSwitch = false, false
			n := of(api.NodeSwitch, "", m.x(plain(api.TypeInt), 1, true), of(api.NodeCase, "", of(api.NodeInt, "3"), block()), of(api.NodeCase, "", block()))
			m.inFor, m.inSwitch = in, sw
			return n
		case 4:
			return of(api.NodeDo, "", of(api.NodeCall, "panic", m.x(plain(api.TypeString), 2, true)))
		}
	}
	return m.answer()
}

func (m *maker) answer() api.Node {
	n := of(api.NodeReturn, "")
	if f, ok := m.callOf(m.results); ok && len(m.results) > 1 && m.one(2) {
		n.Kids = []api.Node{m.call(f, 1)}
		return n
	}
	for _, t := range m.results {
		n.Kids = append(n.Kids, m.x(t, 2, true))
	}
	return n
}

// callOf is a function with these results.
func (m *maker) callOf(results []api.Type) (made, bool) {
	for _, i := range m.chance.Perm(len(m.functions)) {
		if f := m.functions[i]; spellTypes(f.results) == spellTypes(results) && m.mayCall(i) {
			return f, true
		}
	}
	return made{}, false
}

// mayCall lets most functions call those ahead of them alone: they come to an end then.
func (m *maker) mayCall(i int) bool { return i < m.at || m.one(20) }

func (m *maker) call(f made, deep int) api.Node {
	n := of(api.NodeCall, f.name)
	for _, t := range f.of {
		n.Kids = append(n.Kids, m.x(t, deep-1, true))
	}
	return n
}

func (m *maker) statements(deep int) []api.Node {
	var out []api.Node
	for range m.chance.Intn(5) {
		out = append(out, m.statement(deep)...)
	}
	return out
}

func (m *maker) declare(name string, t api.Type) {
	last := len(m.blocks) - 1
	m.blocks[last] = append(m.blocks[last], &variable{name, t, false})
}

func (m *maker) statement(deep int) []api.Node {
	one := func(n api.Node) []api.Node { return []api.Node{n} }
	simple := 8
	if deep > 0 {
		simple += 5
	}
	switch m.chance.Intn(simple) {
	case 0:
		t, name := m.anyType(), m.name()
		n := of(api.NodeVar, name, nodeOf(t))
		if m.one(2) {
			n.Kids = append(n.Kids, m.x(t, 2, true))
		}
		m.declare(name, t)
		return one(n)
	case 1, 2:
		t, name := m.anyType(), m.name()
		n := api.Node{Kind: api.NodeDefine, Num: 1, Kids: []api.Node{of(api.NodeName, name), m.x(t, 2, true)}}
		m.declare(name, t)
		return one(n)
	case 3:
		return m.many()
	case 4, 5:
		return m.assignments()
	case 6:
		i := m.chance.Intn(len(m.functions))
		f := m.functions[i]
		if !m.mayCall(i) {
			return nil
		}
		return one(of(api.NodeDo, "", m.call(f, 2)))
	case 7:
		return m.leap()
	case 8:
		return one(m.block(deep, nil))
	case 9:
		return one(m.branch(deep))
	case 10, 11:
		return m.loop(deep)
	}
	return one(m.choice(deep))
}

// many is a definition of more names by a call.
func (m *maker) many() []api.Node {
	i := m.chance.Intn(len(m.functions))
	f := m.functions[i]
	if len(f.results) < 2 || !m.mayCall(i) {
		return nil
	}
	n := api.Node{Kind: api.NodeDefine, Num: len(f.results)}
	call := m.call(f, 2)
	for _, t := range f.results {
		name := m.name()
		n.Kids = append(n.Kids, of(api.NodeName, name))
		m.declare(name, t)
	}
	n.Kids = append(n.Kids, call)
	return []api.Node{n}
}

func (m *maker) assignments() []api.Node {
	var places []api.Node
	var types []api.Type
	all := m.visible()
	for _, i := range m.chance.Perm(len(all)) {
		if len(places) < 1+m.chance.Intn(2) {
			p, t := m.place(all[i])
			places, types = append(places, p), append(types, t)
		}
	}
	if len(places) == 0 {
		return nil
	}
	n := assign(len(places), places...)
	if f, ok := m.callOf(types); ok && len(types) > 1 && m.one(2) {
		n.Kids = append(n.Kids, m.call(f, 1))
		return []api.Node{n}
	}
	for _, t := range types {
		n.Kids = append(n.Kids, m.x(t, 2, true))
	}
	return []api.Node{n}
}

// visible are the variables that no other one hides.
func (m *maker) visible() []*variable {
	hidden := map[string]bool{}
	var out []*variable
	for i := range m.blocks {
		for _, v := range m.blocks[len(m.blocks)-1-i] {
			if !hidden[v.name] {
				out = append(out, v)
			}
			hidden[v.name] = true
		}
	}
	return out
}

func (m *maker) place(v *variable) (api.Node, api.Type) {
	n, t := of(api.NodeName, v.name), v.of
	for m.one(2) {
		s := m.structOf(t)
		switch {
		case t.Kind == api.TypeSlice:
			n, t = of(api.NodeIndex, "", n, m.index(1)), t.Elem[0]
		case t.Kind == api.TypeStruct && len(s.names) > 0:
			i := m.chance.Intn(len(s.names))
			n, t = of(api.NodePart, s.names[i], n), s.of[i]
		default:
			continue
		}
		v.used = true
	}
	return n, t
}

func (m *maker) structOf(t api.Type) made {
	for _, s := range m.structs {
		if s.name == t.Name {
			return s
		}
	}
	return made{}
}

func (m *maker) leap() []api.Node {
	if len(m.labels) > 0 && m.one(2) {
		l := m.labels[m.chance.Intn(len(m.labels))]
		l.named = true
		return []api.Node{of([]api.NodeKind{api.NodeBreak, api.NodeContinue}[m.chance.Intn(2)], l.name)}
	}
	switch {
	case m.inFor && m.one(2):
		return []api.Node{of(api.NodeContinue, "")}
	case m.inFor || m.inSwitch:
		return []api.Node{of(api.NodeBreak, "")}
	case m.one(3):
		return []api.Node{m.answer()}
	}
	return nil
}

func (m *maker) branch(deep int) api.Node {
	n := of(api.NodeIf, "", m.x(plain(api.TypeBool), 2, true), m.block(deep, nil))
	if m.one(3) {
		n.Kids = append(n.Kids, m.block(deep, nil))
	} else if m.one(2) {
		n.Kids = append(n.Kids, m.branch(deep-1))
	}
	return n
}

// loop is a for, most times with a counter, which nothing else sets.
func (m *maker) loop(deep int) []api.Node {
	n := of(api.NodeFor, "")
	counter := of(api.NodeName, m.fresh("c"))
	isCounted := !m.one(6)
	if isCounted {
		n.Kids = append(n.Kids, of(api.NodeBinary, "<", counter, of(api.NodeInt, strconv.Itoa(1+m.chance.Intn(4)))))
	} else if m.one(2) {
		n.Kids = append(n.Kids, m.x(plain(api.TypeBool), 2, true))
	}
	inFor, inSwitch, labels := m.inFor, m.inSwitch, m.labels
	m.inFor = true
	var own *label
	if m.one(2) {
		own = &label{name: m.fresh("l")}
		m.labels = append(m.labels[:len(m.labels):len(m.labels)], own)
	}
	n.Kids = append(n.Kids, m.block(deep, func() []api.Node {
		if own == nil || own.named && m.one(2) {
			return nil
		}
		own.named = true
		return []api.Node{of(api.NodeBreak, own.name)}
	}))
	if own != nil {
		n.Text = own.name
	}
	m.inFor, m.inSwitch, m.labels = inFor, inSwitch, labels
	if !isCounted {
		return []api.Node{n}
	}
	block := &n.Kids[len(n.Kids)-1]
	block.Kids = append([]api.Node{assign(1, counter, of(api.NodeBinary, "+", counter, of(api.NodeInt, "1")))}, block.Kids...)
	return []api.Node{{Kind: api.NodeDefine, Num: 1, Kids: []api.Node{counter, of(api.NodeInt, "0")}}, n}
}

func (m *maker) choice(deep int) api.Node {
	t := m.basic()
	n := of(api.NodeSwitch, "", m.x(t, 2, true))
	inSwitch := m.inSwitch
	m.inSwitch = true
	others := false
	for i := range m.chance.Intn(4) {
		one := of(api.NodeCase, "")
		if others || !m.one(3) {
			one.Kids = append(one.Kids, m.x(t, 2, false))
			if t.Kind == api.TypeInt {
				one.Kids = append(one.Kids, of(api.NodeInt, strconv.Itoa(i)))
			}
			if t.Kind == api.TypeFloat {
				one.Kids = append(one.Kids, of(api.NodeUnary, "-", of(api.NodeFloat, strconv.Itoa(i)+".5")))
			}
			if t.Kind == api.TypeString {
				one.Kids = append(one.Kids, of(api.NodeString, strconv.Itoa(i)))
			}
		} else {
			others = true
		}
		one.Kids = append(one.Kids, m.block(deep, nil))
		n.Kids = append(n.Kids, one)
	}
	m.inSwitch = inSwitch
	return n
}
