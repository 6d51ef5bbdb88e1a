package show_test

import (
	"math/rand"
	"testing"

	"gristmill/api"
)

// plain is a form with an a for each expression, and no statements.
func plain(f form) shape {
	s := shape{form: f, blocks: make([][]shape, f.holes(true))}
	for range f.holes(false) {
		s.x = append(s.x, shape{form: leaf("a", name("a"))})
	}
	return s
}

// stated is the form of a statement's text.
func stated(text string) shape {
	for _, f := range statements() {
		if f.text == text {
			return plain(f)
		}
	}
	panic(text)
}

func isAction(t *testing.T, statements ...shape) {
	t.Helper()
	isShown(t, actions, block(nodes(statements)...), shownAll(statements, ""))
}

func isFunction(t *testing.T, statements ...shape) {
	t.Helper()
	isShown(t, files, file(function(nodes(statements)...)), "package p\n\nfunc f() {\n"+shownAll(statements, "\t")+"}\n")
}

func TestExpressionsWithinStatements(t *testing.T) {
	for _, s := range statements() {
		for hole := range s.holes(false) {
			for _, x := range append(expressions(), dollars()...) {
				outer := plain(s)
				outer.x[hole] = plain(x)
				isAction(t, outer)
			}
		}
	}
}

// TestExpressionsWithinEachOther puts each within each within each, in a head and behind one.
func TestExpressionsWithinEachOther(t *testing.T) {
	t.Parallel()
	all, head, behind := expressions(), stated("for @h {\n@s}"), stated("a = @1")
	for _, first := range all {
		for i := range first.holes(false) {
			for _, second := range append(all, dollars()...) {
				outer, inner := plain(first), plain(second)
				outer.x[i] = inner
				head.x[0], behind.x[0] = outer, outer
				isAction(t, head, behind)
				for j := range inner.x {
					for _, third := range all {
						inner.x[j] = plain(third)
						isAction(t, head, behind)
					}
					inner.x[j] = plain(all[0])
				}
			}
		}
	}
}

func TestStatementsWithinEachOther(t *testing.T) {
	end := stated("return")
	for _, first := range statements() {
		for i := range first.holes(true) {
			for _, second := range statements() {
				outer, inner := plain(first), plain(second)
				for _, kids := range [][]shape{{inner}, {inner, end}, {end, inner}, {inner, inner, inner}} {
					outer.blocks[i] = kids
					isAction(t, outer)
					isFunction(t, outer, end)
				}
			}
		}
	}
}

// maker makes up shapes.
type maker struct {
	chance *rand.Rand
	x, s   []form
}

func (m maker) expression(deep int) shape {
	all := m.x
	if deep <= 0 {
		all = all[:10]
	}
	out := plain(all[m.chance.Intn(len(all))])
	for i := range out.x {
		out.x[i] = m.expression(deep - 1 - m.chance.Intn(3))
	}
	return out
}

func (m maker) statement(deep int) shape {
	all := m.s
	if deep <= 0 {
		all = all[:16]
	}
	out := plain(all[m.chance.Intn(len(all))])
	for i := range out.x {
		out.x[i] = m.expression(deep)
	}
	for i := range out.blocks {
		out.blocks[i] = m.statements(deep - 1)
	}
	return out
}

func (m maker) statements(deep int) []shape {
	var out []shape
	for range m.chance.Intn(4) {
		out = append(out, m.statement(deep-m.chance.Intn(3)))
	}
	return out
}

func TestMadeUpTrees(t *testing.T) {
	t.Parallel()
	m := maker{rand.New(rand.NewSource(1)), expressions(), statements()}
	withDollars := maker{m.chance, append(dollars(), m.x...), m.s}
	for n := range 3000 {
		isFunction(t, m.statements(n%8)...)
		isAction(t, withDollars.statements(n%8)...)
	}
}

func TestMadeUpFiles(t *testing.T) {
	m := maker{rand.New(rand.NewSource(2)), expressions(), statements()}
	for n := range 300 {
		tree, want := file(), "package p\n"
		for range m.chance.Intn(5) {
			if m.chance.Intn(2) == 0 {
				tree.Kids = append(tree.Kids, structure("T", field("a", typed("int")), field("b", slice(typed("U")))))
				want += "\ntype T struct {\n\ta int\n\tb []U\n}\n"
				continue
			}
			statements := m.statements(n % 5)
			tree.Kids = append(tree.Kids, of(api.NodeFunc, "g", params(field("a", typed("int"))), results(typed("T")), block(nodes(statements)...)))
			want += "\nfunc g(a int) T {\n" + shownAll(statements, "\t") + "}\n"
		}
		isShown(t, files, tree, want)
	}
}
