package check_test

import (
	"slices"
	"strings"
	"testing"

	"gristmill/api"
	"gristmill/check"
	"gristmill/node"
)

// P7.6.
func TestMadeUpPrograms(t *testing.T) {
	t.Parallel()
	for seed := range 800 {
		n := newMaker(int64(seed)).file()
		if !node.Right(n) {
			continue
		}
		passesTree(t, n)
		if t.Failed() {
			t.Fatalf("seed %d", seed)
		}
	}
}

// TestTurnedPrograms changes programs that have no fault: of what has none then Go may have nothing against it, and what Go takes has no fault of some kinds.
func TestTurnedPrograms(t *testing.T) {
	t.Parallel()
	told := map[api.Errno]int{}
	for seed := range 2500 {
		m := newMaker(int64(seed))
		n := m.file()
		for range 1 + m.chance.Intn(3) {
			m.turn(&n)
		}
		if !node.Right(n) || saysByACall(n) {
			continue
		}
		n = read(t, shown(t, n))
		f := check.File(n)
		told[f.Err]++
		err := byGo(shown(t, n))
		if f.Err == api.OK && err != nil || err == nil && !isOwn(n, f) {
			t.Fatalf("seed %d: %s: %v, Go says %v", seed, short(shown(t, n)), f, err)
		}
		if seed%10 == 0 {
			asked(t, n)
		}
	}
	for _, e := range []api.Errno{api.OK, api.ErrTwice, api.ErrName, api.ErrType, api.ErrCount, api.ErrUnused, api.ErrReturn, api.ErrLoop, api.ErrConst, api.ErrCase} {
		if told[e] < 3 {
			t.Errorf("%d was told %d times", e, told[e])
		}
	}
}

// isOwn tells whether a fault may be one that Go has nothing against.
func isOwn(n api.Node, f api.Fault) bool {
	switch f.Err {
	case api.ErrUnused, api.ErrReturn, api.ErrLoop, api.ErrCase, api.ErrShape:
		return false
	case api.ErrName:
		for _, p := range nodes(&n) {
			if p.At == f.At && slices.Contains(known, p.Text) {
				return true
			}
		}
		return false
	}
	return true
}

// saysByACall tells whether a case has a call that is a constant: P7.2 lets it be twice, Go does not.
func saysByACall(n api.Node) bool {
	for _, p := range nodes(&n) {
		if p.Kind == api.NodeCase && slices.ContainsFunc(p.Kids, func(x api.Node) bool { return x.Kind == api.NodeCall && (x.Text == "len" || x.Text == "float64") }) {
			return true
		}
	}
	return false
}

// turn changes something.
func (m *maker) turn(n *api.Node) {
	all := nodes(n)
	p := all[m.chance.Intn(len(all))]
	switch m.chance.Intn(7) {
	case 0:
		if q := all[m.chance.Intn(len(all))]; classOf(*p) == classOf(*q) {
			*p = grown(*q)
		}
	case 1:
		if len(p.Kids) > 0 && isRow(p.Kind) {
			i := m.chance.Intn(len(p.Kids))
			p.Kids = slices.Delete(slices.Clone(p.Kids), i, i+1)
		}
	case 2:
		if len(p.Kids) > 0 && isRow(p.Kind) {
			i, k := m.chance.Intn(len(p.Kids)), m.chance.Intn(len(p.Kids)+1)
			p.Kids = slices.Insert(slices.Clone(p.Kids), k, grown(p.Kids[i]))
		}
	case 3:
		if len(p.Kids) > 1 {
			i, k := m.chance.Intn(len(p.Kids)), m.chance.Intn(len(p.Kids))
			p.Kids[i], p.Kids[k] = p.Kids[k], p.Kids[i]
		}
	case 4:
		m.rename(p, all)
	case 5:
		if p := some(m, all, api.NodeBlock); p != nil {
			leap := of([]api.NodeKind{api.NodeBreak, api.NodeContinue, api.NodeReturn}[m.chance.Intn(3)], "")
			p.Kids = slices.Insert(slices.Clone(p.Kids), m.chance.Intn(len(p.Kids)+1), leap)
		}
	case 6:
		if p, q := some(m, all, api.NodeCase), some(m, all, api.NodeCase); p != nil && len(q.Kids) > 1 {
			p.Kids = slices.Insert(slices.Clone(p.Kids), m.chance.Intn(len(p.Kids)), grown(q.Kids[m.chance.Intn(len(q.Kids)-1)]))
		}
	}
}

// some is one of the nodes of a kind.
func some(m *maker, all []*api.Node, kind api.NodeKind) *api.Node {
	for _, i := range m.chance.Perm(len(all)) {
		if all[i].Kind == kind {
			return all[i]
		}
	}
	return nil
}

// rename gives a node the text of another one of its kind, or of a few.
func (m *maker) rename(p *api.Node, all []*api.Node) {
	few := map[api.NodeKind]string{
		api.NodeStruct: "s0 s1 g0 init len", api.NodeField: "f0 f1 g0 s0 p1 int", api.NodeFunc: "g0 g1 s0 init main append", api.NodeType: "int bool string float64 s0 s1 g0 len none",
		api.NodeVar: "v1 v2 p1 g0 len", api.NodeName: "v1 v2 v3 p1 p2 g0 len none", api.NodeFor: "l1 l2 l3", api.NodeBreak: "l1 l2 l3", api.NodeContinue: "l1 l2 l3",
		api.NodeInt: "0 1 2 9223372036854775808", api.NodeFloat: "0.0 1.5 0.50 2.5", api.NodeUnary: "- !", api.NodeBinary: "|| && == != < <= > >= + - * / %", api.NodeCall: "g0 g1 len append panic float64 none", api.NodePart: "f0 f1 f2 own", api.NodeMake: "s0 s1 s2 none", api.NodeKey: "f0 f1 f2 own",
	}
	if texts := strings.Fields(few[p.Kind]); len(texts) > 0 && m.one(2) {
		p.Text = texts[m.chance.Intn(len(texts))]
		return
	}
	for range 20 {
		if q := all[m.chance.Intn(len(all))]; q.Kind == p.Kind {
			p.Text = q.Text
		}
	}
}

// isRow tells the kinds whose Kids may be of any number.
func isRow(kind api.NodeKind) bool {
	switch kind {
	case api.NodeFile, api.NodeStruct, api.NodeParams, api.NodeResults, api.NodeBlock, api.NodeReturn, api.NodeCall, api.NodeList, api.NodeMake, api.NodeSwitch, api.NodeCase, api.NodeIf, api.NodeFor, api.NodeVar:
		return true
	}
	return false
}

func classOf(n api.Node) string {
	switch {
	case n.Kind >= api.NodeInt && n.Kind != api.NodeKey:
		return "expression"
	case n.Kind == api.NodeType || n.Kind == api.NodeSlice:
		return "type"
	case n.Kind >= api.NodeBlock && n.Kind != api.NodeKey && n.Kind != api.NodeCase:
		return "statement"
	}
	return kinds[n.Kind]
}

// grown is a tree anew.
func grown(n api.Node) api.Node {
	return roomy(n, func(int) int { return 0 })
}
