package eval_test

import (
	"strconv"

	"gristmill/api"
)

// x is an expression of a type, so deep at most in itself; a constant only if it may be one.
func (m *maker) x(t api.Type, deep int, constant bool) api.Node {
	if m.one(3) || deep <= 0 {
		if !m.one(4) {
			if n, ok := m.variableOf(t); ok {
				return n
			}
		}
		if constant || t.Kind == api.TypeSlice || t.Kind == api.TypeStruct {
			return m.plainest(t)
		}
	}
	if deep <= 0 {
		return of(api.NodeIndex, "", of(api.NodeList, "", sliceNode(nodeOf(t)), m.plainest(t)), of(api.NodeInt, "0"))
	}
	switch m.chance.Intn(6) {
	case 0:
		if f, ok := m.callOf([]api.Type{t}); ok {
			return m.call(f, deep)
		}
	case 1:
		return of(api.NodeIndex, "", m.x(slice(t), deep-1, true), m.index(deep-1))
	case 2:
		if n, ok := m.part(t, deep); ok {
			return n
		}
	}
	switch t.Kind {
	case api.TypeInt:
		return m.whole(deep, constant)
	case api.TypeBool:
		return m.truth(deep, constant)
	case api.TypeString:
		return of(api.NodeBinary, "+", m.x(t, deep-1, false), m.x(t, deep-1, true))
	case api.TypeFloat:
		return m.float(deep, constant)
	case api.TypeSlice:
		return m.row(t, deep)
	}
	return m.making(t, deep)
}

func (m *maker) variableOf(t api.Type) (api.Node, bool) {
	var fit []*variable
	for _, v := range m.visible() {
		if spellType(v.of) == spellType(t) {
			fit = append(fit, v)
		}
	}
	if len(fit) == 0 {
		return api.Node{}, false
	}
	v := fit[m.chance.Intn(len(fit))]
	v.used = true
	return of(api.NodeName, v.name), true
}

// plainest is an expression of one node, or two.
func (m *maker) plainest(t api.Type) api.Node {
	switch t.Kind {
	case api.TypeInt:
		return of(api.NodeInt, strconv.Itoa(m.chance.Intn(4)))
	case api.TypeBool:
		return api.Node{Kind: api.NodeBool, Num: m.chance.Intn(2)}
	case api.TypeString:
		return of(api.NodeString, []string{"", "a", "b\n"}[m.chance.Intn(3)])
	case api.TypeFloat:
		return of(api.NodeFloat, []string{"0.0", "1.5", "2.25"}[m.chance.Intn(3)])
	case api.TypeSlice:
		return of(api.NodeList, "", nodeOf(t), m.plainest(t.Elem[0]), m.plainest(t.Elem[0]))
	}
	return of(api.NodeMake, t.Name)
}

// index is none below nought that a minus tells.
func (m *maker) index(deep int) api.Node {
	if !m.one(6) {
		return of(api.NodeInt, strconv.Itoa(m.chance.Intn(2)))
	}
	return m.x(plain(api.TypeInt), deep, false)
}

func (m *maker) part(t api.Type, deep int) (api.Node, bool) {
	for _, i := range m.chance.Perm(len(m.structs)) {
		s := m.structs[i]
		for k, name := range s.names {
			if spellType(s.of[k]) == spellType(t) {
				return of(api.NodePart, name, m.x(structure(s.name), deep-1, true)), true
			}
		}
	}
	return api.Node{}, false
}

func (m *maker) whole(deep int, constant bool) api.Node {
	t := plain(api.TypeInt)
	switch m.chance.Intn(6) {
	case 0:
		return of(api.NodeUnary, "-", m.x(t, deep-1, false))
	case 1:
		if constant {
			return of(api.NodeUnary, "-", of(api.NodeInt, strconv.Itoa(m.chance.Intn(3))))
		}
	case 2:
		return of(api.NodeCall, "len", m.x(plain(api.TypeString), deep-1, false))
	case 3:
		return of(api.NodeCall, "len", m.x(slice(m.anyType()), deep-1, true))
	case 4:
		sign := []string{"/", "%"}[m.chance.Intn(2)]
		if m.one(2) {
			return of(api.NodeBinary, sign, m.x(t, deep-1, false), of(api.NodeInt, "3"))
		}
		return of(api.NodeBinary, sign, m.x(t, deep-1, true), m.x(t, deep-1, false))
	}
	return m.between([]string{"+", "-", "*"}[m.chance.Intn(3)], t, deep)
}

// between is two expressions of a type, of which one is no constant.
func (m *maker) between(sign string, t api.Type, deep int) api.Node {
	if m.one(2) {
		return of(api.NodeBinary, sign, m.x(t, deep-1, true), m.x(t, deep-1, false))
	}
	return of(api.NodeBinary, sign, m.x(t, deep-1, false), m.x(t, deep-1, true))
}

func (m *maker) truth(deep int, constant bool) api.Node {
	switch m.chance.Intn(4) {
	case 0:
		return of(api.NodeUnary, "!", m.x(plain(api.TypeBool), deep-1, constant))
	case 1:
		return m.between([]string{"&&", "||"}[m.chance.Intn(2)], plain(api.TypeBool), deep)
	case 2:
		return m.between([]string{"==", "!="}[m.chance.Intn(2)], m.basic(), deep)
	}
	t := []api.Type{plain(api.TypeInt), plain(api.TypeString), plain(api.TypeFloat)}[m.chance.Intn(3)]
	return m.between([]string{"<", "<=", ">", ">="}[m.chance.Intn(4)], t, deep)
}

func (m *maker) float(deep int, constant bool) api.Node {
	t := plain(api.TypeFloat)
	switch m.chance.Intn(4) {
	case 0:
		return of(api.NodeUnary, "-", m.x(t, deep-1, false))
	case 1:
		return of(api.NodeCall, "float64", m.x(plain(api.TypeInt), deep-1, constant))
	}
	return m.between([]string{"+", "-", "*", "/"}[m.chance.Intn(4)], t, deep)
}

func (m *maker) row(t api.Type, deep int) api.Node {
	switch m.chance.Intn(3) {
	case 0:
		return of(api.NodeCall, "append", m.x(t, deep-1, true), m.x(t.Elem[0], deep-1, true))
	case 1:
		return of(api.NodeUpTo, "", m.x(t, deep-1, true), m.index(deep-1))
	}
	n := of(api.NodeList, "", nodeOf(t))
	for range 1 + m.chance.Intn(3) {
		n.Kids = append(n.Kids, m.x(t.Elem[0], deep-1, true))
	}
	return n
}

// value is one of a type.
func (m *maker) value(t api.Type, deep int) api.Value {
	switch t.Kind {
	case api.TypeInt:
		return anInt(int64(m.chance.Intn(5) - 1))
	case api.TypeBool:
		return aBool(int64(m.chance.Intn(2)))
	case api.TypeString:
		return aString([]string{"", "a", "b\n"}[m.chance.Intn(3)])
	case api.TypeFloat:
		return ofFloat(floats()[m.chance.Intn(len(floats()))])
	case api.TypeSlice:
		v := aSlice()
		for range min(deep, 1+m.chance.Intn(3)) {
			v.Parts = append(v.Parts, m.value(t.Elem[0], deep-1))
		}
		return v
	}
	v := aStruct(t.Name)
	for _, of := range m.structOf(t).of {
		v.Parts = append(v.Parts, m.value(of, deep-1))
	}
	return v
}

func (m *maker) making(t api.Type, deep int) api.Node {
	n, s := of(api.NodeMake, t.Name), m.structOf(t)
	for _, i := range m.chance.Perm(len(s.names)) {
		if m.one(2) {
			n.Kids = append(n.Kids, of(api.NodeKey, s.names[i], m.x(s.of[i], deep-1, true)))
		}
	}
	return n
}
