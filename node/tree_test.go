package node_test

import (
	"math"
	"reflect"
	"runtime/debug"
	"testing"

	"gristmill/api"
	"gristmill/node"
)

func TestDeep(t *testing.T) {
	x := name("x")
	odd := api.Node{Kind: 255, Text: "\xff", Num: -1, At: -1}
	for i, c := range []struct {
		n    api.Node
		deep int
	}{
		{api.Node{}, 1}, {odd, 1}, {x, 1}, {file(), 1}, {api.Node{Kids: []api.Node{}}, 1}, {api.Node{Kids: []api.Node{{}}}, 2}, {block(odd), 2},
		{of(api.NodeBinary, "+", x, x), 2}, {of(api.NodeBinary, "+", x, nested(1, x)), 3}, {of(api.NodeBinary, "+", nested(1, x), x), 3}, {of(0, "", x, nested(5, x), x, nested(3, x), x), 7}, {of(0, "", nested(4, x), nested(4, odd)), 6}, {of(0, "", x, x, x, x, nested(1, x)), 3},
		{sample(api.NodeFunc), 2}, {nested(59, x), 60}, {nested(60, x), 61}, {nested(1000, x), 1001}, {sum(1 << 10), 11}, {doubled(16, x), 17}, {doubled(12, nested(3, x)), 16},
	} {
		if got := node.Deep(c.n); got != c.deep {
			t.Errorf("%d: %d; wanted %d", i, got, c.deep)
		}
	}
}

// bookDeep is the document's words.
func bookDeep(n api.Node) int {
	deepest := 0
	for _, kid := range n.Kids {
		deepest = max(deepest, bookDeep(kid))
	}
	return deepest + 1
}

func TestDeepByTheBook(t *testing.T) {
	for _, n := range riches() {
		for i, p := range allOf(&n) {
			if got := node.Deep(*p); got != bookDeep(*p) {
				t.Errorf("node %d: %d; wanted %d", i, got, bookDeep(*p))
			}
		}
	}
}

func TestSame(t *testing.T) {
	for _, n := range append(riches(), api.Node{}, api.Node{Kind: 255, Text: "\xff", Num: math.MinInt}, nested(1000, sample(36))) {
		if !node.Same(n, n) || !node.Same(n, copied(n)) {
			t.Error("not the same as itself")
		}
		up, down := placed(n, func(i int) int { return i }), placed(n, func(i int) int { return -7 * i })
		if !node.Same(n, up) || !node.Same(up, down) || !node.Same(down, up) {
			t.Error("not the same with other At's")
		}
	}
	empty, none := api.Node{Kind: api.NodeBlock, Kids: []api.Node{}}, api.Node{Kind: api.NodeBlock}
	if !node.Same(empty, none) || !node.Same(none, empty) || !node.Same(block(empty, none), block(none, empty)) {
		t.Error("an empty list and none")
	}
}

// turns change one field of a node each.
func turns() []func(p *api.Node) {
	return []func(p *api.Node){
		func(p *api.Node) { p.Kind++ }, func(p *api.Node) { p.Kind = 0 }, func(p *api.Node) { p.Kind += 128 },
		func(p *api.Node) { p.Text += " " }, func(p *api.Node) { p.Text += "\x00" }, func(p *api.Node) { p.Text = "another" }, func(p *api.Node) { p.Text = "\xff" + p.Text },
		func(p *api.Node) { p.Num++ }, func(p *api.Node) { p.Num-- }, func(p *api.Node) { p.Num += 1 << 32 }, func(p *api.Node) { p.Num = math.MinInt },
		func(p *api.Node) { p.Kids = append(p.Kids, api.Node{}) }, func(p *api.Node) { p.Kids = append([]api.Node{{}}, p.Kids...) },
	}
}

func TestSameTellsEachFieldOfEachNode(t *testing.T) {
	for _, n := range riches() {
		for i := range allOf(&n) {
			for j, turn := range turns() {
				other := copied(n)
				turn(allOf(&other)[i])
				if node.Same(n, other) || node.Same(other, n) {
					t.Errorf("node %d turned by %d is the same", i, j)
				}
			}
			other := copied(n)
			p := allOf(&other)[i]
			for len(p.Kids) > 0 {
				p.Kids = p.Kids[:len(p.Kids)-1]
				if node.Same(n, other) || node.Same(other, n) {
					t.Errorf("node %d is the same with %d Kids", i, len(p.Kids))
				}
			}
		}
	}
}

func TestSameTellsTheOrderAndTheNesting(t *testing.T) {
	x, y := name("x"), name("y")
	for i, c := range [][2]api.Node{
		{block(x, y), block(y, x)}, {block(x, x), block(x)}, {block(block(x), y), block(block(x, y))}, {block(block(), x), block(block(x))}, {block(x, block()), block(block(), x)}, {block(), x}, {api.Node{}, block()},
		{block(block(x), block(y)), block(block(y), block(x))}, {block(block(x), block()), block(block(), block(x))}, {block(block(x, y), block()), block(block(x), block(y))}, {nested(60, x), nested(61, x)}, {nested(60, x), nested(60, y)},
	} {
		if node.Same(c[0], c[1]) || node.Same(c[1], c[0]) {
			t.Errorf("%d: the same", i)
		}
	}
}

func TestBare(t *testing.T) {
	odd := api.Node{Kind: 255, Text: "\xff", Num: math.MinInt, At: math.MinInt, Kids: []api.Node{{Kind: 0, At: -1}, {Kind: 99, At: math.MaxInt, Kids: []api.Node{{At: 3}}}}}
	for _, n := range append(riches(), api.Node{}, api.Node{At: 5}, odd, nested(1000, odd), file(odd), sum(1<<10)) {
		n = placed(n, func(i int) int { return 3*i - 7 })
		want := placed(n, func(int) int { return 0 })
		if got := node.Bare(n); !reflect.DeepEqual(got, want) {
			t.Errorf("%v; wanted %v", got, want)
		}
		if !node.Same(n, node.Bare(n)) || node.Deep(n) != node.Deep(node.Bare(n)) {
			t.Error("not the same bare")
		}
	}
	if got := node.Bare(api.Node{Kind: 1, At: 1, Kids: []api.Node{}}); got.Kind != 1 || got.At != 0 || len(got.Kids) != 0 {
		t.Errorf("%v", got)
	}
}

// roomy is a tree whose lists all have room behind, with something in it.
func roomy(n api.Node) api.Node {
	kids := make([]api.Node, 0, len(n.Kids)+2)
	for _, kid := range n.Kids {
		kids = append(kids, roomy(kid))
	}
	full := append(kids, of(99, "behind"), of(98, "behind"))
	n.Kids = full[:len(kids)]
	return n
}

func TestNoArgumentIsChanged(t *testing.T) {
	full := func(n api.Node) api.Node { // what lies behind too
		var all func(n api.Node) api.Node
		all = func(n api.Node) api.Node {
			kids := []api.Node{}
			for _, kid := range n.Kids[:cap(n.Kids)] {
				kids = append(kids, all(kid))
			}
			n.Kids = kids
			return n
		}
		return all(n)
	}
	for _, n := range append(riches(), block(sample(0), tell(sample(99))), file(block(), block()), nested(70, name("x"))) {
		a := roomy(placed(n, func(i int) int { return i + 1 }))
		b := roomy(placed(n, func(i int) int { return 2 * i }))
		before, other := full(a), full(b)
		for range 2 {
			node.Right(a)
			node.Deep(a)
			node.Bare(a)
			if !node.Same(a, b) || !node.Same(b, a) || !node.Same(a, a) {
				t.Error("not the same")
			}
		}
		if !reflect.DeepEqual(full(a), before) || !reflect.DeepEqual(full(b), other) {
			t.Error("an argument is changed")
		}
	}
}

func TestBareIsNewMemory(t *testing.T) {
	for _, n := range riches() {
		n = roomy(placed(n, func(i int) int { return i }))
		before := copied(n)
		bare := node.Bare(n)
		kept := copied(bare)
		for _, p := range allOf(&bare) {
			for i := range p.Kids[:cap(p.Kids)] {
				if i >= len(p.Kids) {
					p.Kids[:cap(p.Kids)][i].Text = "turned"
				}
			}
		}
		if !reflect.DeepEqual(bare, kept) {
			t.Error("two lists of an answer share room")
		}
		for _, p := range allOf(&bare) {
			p.Kind, p.Text, p.Num, p.At = 77, "turned", 77, 77
		}
		if !reflect.DeepEqual(copied(n), before) {
			t.Error("an answer shares with its argument")
		}
		bare = node.Bare(n)
		for _, p := range allOf(&n) {
			p.Kind, p.Text, p.Num, p.At = 77, "turned", 77, 77
		}
		if !reflect.DeepEqual(bare, kept) {
			t.Error("an answer is changed by its argument")
		}
	}
}

func TestBareSharesNoListTwice(t *testing.T) {
	seen := map[*api.Node]bool{}
	bare := node.Bare(doubled(10, nested(2, name("x"))))
	for _, p := range allOf(&bare) {
		if seen[p] {
			t.Fatal("two lists of an answer are one")
		}
		seen[p] = true
	}
	if len(seen) != 1<<10-1+3<<10 {
		t.Errorf("%d nodes", len(seen))
	}
}

// TestDeepTreesNeedNoStack asks of a tree that a call within a call for each Kid could not go through here.
func TestDeepTreesNeedNoStack(t *testing.T) {
	defer debug.SetMaxStack(debug.SetMaxStack(16 << 20))
	const deep = 1 << 20
	a, b, c := nested(deep-1, name("x")), nested(deep-1, api.Node{Kind: api.NodeName, Text: "x", At: 9}), nested(deep-1, name("y"))
	if node.Right(a) || node.Deep(a) != deep || !node.Same(a, b) || node.Same(a, c) {
		t.Error("deep")
	}
	bare := node.Bare(b)
	if !node.Same(a, bare) || node.Deep(bare) != deep {
		t.Error("deep and bare")
	}
	for len(bare.Kids) > 0 {
		bare = bare.Kids[0]
	}
	if bare.At != 0 {
		t.Errorf("At %d", bare.At)
	}
}

func TestWideTrees(t *testing.T) {
	wide := make([]api.Node, 1<<18)
	for i := range wide {
		wide[i] = api.Node{Kind: api.NodeBreak, At: i}
	}
	n := block(wide...)
	bare := node.Bare(n)
	if node.Deep(n) != 2 || node.Right(n) || !node.Same(n, bare) || bare.Kids[len(wide)-1].At != 0 || n.Kids[len(wide)-1].At != len(wide)-1 {
		t.Error("wide")
	}
	bare.Kids[len(wide)/2].Text = "L"
	if node.Same(n, bare) || node.Same(bare, n) {
		t.Error("wide, with one turned: the same")
	}
}

// TestTurnedPlaces: P2.3: where nodes stand in a source hangs on nothing, and nothing on it.
func TestTurnedPlaces(t *testing.T) {
	for _, n := range riches() {
		many := len(allOf(&n))
		up, down := placed(n, func(i int) int { return i }), placed(n, func(i int) int { return many - i })
		if !node.Right(up) || !node.Right(down) || !node.Same(up, down) || node.Deep(up) != node.Deep(down) || !reflect.DeepEqual(node.Bare(up), node.Bare(down)) {
			t.Error("turned At's make a difference")
		}
		up.Kids[0].At, up.Kids[1].At = up.Kids[1].At, up.Kids[0].At
		if !node.Right(up) || !node.Same(up, down) {
			t.Error("two At's changed about make a difference")
		}
	}
	a, b := name("a"), of(api.NodePart, "p", with(api.NodeDollar, 0))
	if !node.Right(block(with(api.NodeAssign, 2, a, b, whole("1"), whole("2")))) || !node.Right(block(with(api.NodeAssign, 2, b, a, whole("1"), whole("2")))) {
		t.Error("an assignment's places changed about")
	}
}
