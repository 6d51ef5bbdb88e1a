package node_test

import (
	"math"
	"regexp"
	"strings"
	"testing"

	"gristmill/api"
)

// letters are for kinds: each the one at its number, from NodeFile's A on; 0 and the last are for kinds that there are not.
const letters = "@ABCDEFGHIJKLMNOPQRSTUVWXYZabcdefghij"

// patterns are the table's last column; Nums above 0 stand behind.
func patterns() map[api.NodeKind]map[int]string {
	just := func(s string) map[int]string { return map[int]string{0: s} }
	return map[api.NodeKind]map[int]string{
		api.NodeFile:     just("(struct|func)*"),
		api.NodeStruct:   just("field*"),
		api.NodeField:    just("t"),
		api.NodeFunc:     just("params results block"),
		api.NodeParams:   just("field*"),
		api.NodeResults:  just("t*"),
		api.NodeType:     just(""),
		api.NodeSlice:    just("t"),
		api.NodeBlock:    just("s*"),
		api.NodeVar:      just("t x?"),
		api.NodeDefine:   {1: "name x", 2: "name name call", 3: "name name name call"},
		api.NodeAssign:   {1: "place x", 2: "place place (x x|call)", 3: "place place place (x x x|call)"},
		api.NodeIf:       just("x block (block|if)?"),
		api.NodeFor:      just("x? block"),
		api.NodeSwitch:   just("x case*"),
		api.NodeCase:     just("x* block"),
		api.NodeReturn:   just("x*"),
		api.NodeBreak:    just(""),
		api.NodeContinue: just(""),
		api.NodeDo:       just("call"),
		api.NodeInt:      just(""),
		api.NodeFloat:    just(""),
		api.NodeString:   just(""),
		api.NodeBool:     just(""),
		api.NodeName:     just(""),
		api.NodeUnary:    just("x"),
		api.NodeBinary:   just("x x"),
		api.NodeCall:     just("x*"),
		api.NodeIndex:    just("x x"),
		api.NodeUpTo:     just("x x"),
		api.NodePart:     just("x"),
		api.NodeList:     just("slice x*"),
		api.NodeMake:     just("key*"),
		api.NodeKey:      just("x"),
		api.NodeDollar:   just(""),
	}
}

func pattern(s string) *regexp.Regexp {
	one := func(kinds ...api.NodeKind) string {
		var b strings.Builder
		for _, k := range kinds {
			b.WriteByte(letters[k])
		}
		return "[" + b.String() + "]"
	}
	words := map[string]string{
		"struct": one(api.NodeStruct), "func": one(api.NodeFunc), "field": one(api.NodeField), "params": one(api.NodeParams), "results": one(api.NodeResults), "block": one(api.NodeBlock),
		"name": one(api.NodeName), "call": one(api.NodeCall), "if": one(api.NodeIf), "case": one(api.NodeCase), "slice": one(api.NodeSlice), "key": one(api.NodeKey),
		"t":     one(api.NodeType, api.NodeSlice),
		"s":     one(api.NodeBlock, api.NodeVar, api.NodeDefine, api.NodeAssign, api.NodeIf, api.NodeFor, api.NodeSwitch, api.NodeReturn, api.NodeBreak, api.NodeContinue, api.NodeDo),
		"x":     one(api.NodeInt, api.NodeFloat, api.NodeString, api.NodeBool, api.NodeName, api.NodeUnary, api.NodeBinary, api.NodeCall, api.NodeIndex, api.NodeUpTo, api.NodePart, api.NodeList, api.NodeMake, api.NodeDollar),
		"place": one(api.NodeName, api.NodeDollar, api.NodeIndex, api.NodePart),
	}
	s = regexp.MustCompile("[a-z]+").ReplaceAllStringFunc(s, func(w string) string { return words[w] })
	return regexp.MustCompile("^(" + strings.ReplaceAll(s, " ", "") + ")$")
}

// rows are all rows of Kids up to so many, by letters.
func rows(alphabet string, most int) []string {
	out := []string{""}
	for from := 0; most > 0; most-- {
		to := len(out)
		for _, row := range out[from:to] {
			for _, c := range alphabet {
				out = append(out, row+string(c))
			}
		}
		from = to
	}
	return out
}

func chosen(kinds ...api.NodeKind) string {
	var b strings.Builder
	for _, k := range kinds {
		b.WriteByte(letters[k])
	}
	return b.String()
}

// TestRightKids holds each kind with all short rows of Kids, too few and too many among them, against the table.
func TestRightKids(t *testing.T) {
	all := rows(letters, 2)
	all = append(all, rows(chosen(api.NodeField, api.NodeParams, api.NodeResults, api.NodeSlice, api.NodeBlock, api.NodeIf, api.NodeCase, api.NodeName, api.NodeCall), 4)...)
	all = append(all, rows(chosen(api.NodeName, api.NodePart, api.NodeInt, api.NodeCall), 6)...)
	for kind := api.NodeFile; kind <= lastKind; kind++ {
		for num, p := range patterns()[kind] {
			fits, n := pattern(p), sample(kind)
			if num > 0 {
				n.Num = num
			}
			for _, row := range all {
				n.Kids = nil
				for i := range len(row) {
					n.Kids = append(n.Kids, sample(api.NodeKind(strings.IndexByte(letters, row[i]))))
				}
				if got, want := right(within(n)), fits.MatchString(row); got != want {
					t.Fatalf("kind %d, Num %d, Kids %s: %t", kind, n.Num, row, got)
				}
			}
		}
	}
}

// pool are texts, each with what it may be: a name, none, digits, digits with a point, an operator of one, of two.
func pool() map[string]string {
	digits := strings.Repeat("1234567890", 4)
	out := map[string]string{
		"": "none", "0": "int", "1": "int", "9": "int", "10": "int", "90": "int", digits: "int", strings.Repeat("9", 40): "int",
		"0.0": "float", "0.00": "float", "1.0": "float", "0.10": "float", "10.5": "float", "1.05": "float", "9.001": "float",
		digits[:1] + "." + digits[1:]: "float", digits[:39] + "." + digits[39:]: "float", digits[:20] + "." + digits[20:]: "float", "0." + digits[1:]: "float",
		"-": "unary binary", "!": "unary",
	}
	for _, s := range []string{"||", "&&", "==", "!=", "<", "<=", ">", ">=", "+", "*", "/", "%"} {
		out[s] = "binary"
	}
	for _, s := range []string{
		"a", "z", "A", "Z", "x", "x1", "a0", "z9", "_1", "_a", "__", "a_", "Main", "main", "int", "bool", "string", "float64", "nil", "iota", "len", "append", "panic", "init", "error", "any",
		"Break", "GO", "go_", "_go", "goo", "types", "vars", "fals", "tru", "iff", "True", strings.Repeat("a", 40), strings.Repeat("_", 40), "a" + strings.Repeat("9", 39),
	} {
		out[s] = "name"
	}
	for _, s := range strings.Fields("break case chan const continue default defer else fallthrough false for func go goto if import interface map package range return select struct switch true type var") {
		out[s] = "word"
	}
	for _, s := range []string{
		"_", "1a", "0x1", "1_0", "a b", " a", "a ", "a.b", "a-b", "a\x00", "\x00", "a$", "$", "$$", "@", "`", "a{", "a[", "a`", "a/", "a:", "1/", ":1", " ", "\n", "\xff", "a\xff", "\u00e9", "a\u00e9", "\u03b1", "\u0661", "1\u0661", "1\uff11",
		strings.Repeat("a", 41), strings.Repeat("a", 40) + " ", strings.Repeat("a", 1000), "\u00e9" + strings.Repeat("a", 38),
		"00", "01", "007", "0000", "-1", "+1", " 1", "1 ", "1e3", "0b1", "1a1", digits + "1", "1" + strings.Repeat("0", 40), "0" + digits[1:],
		".", "1.", ".1", "..", "1..0", "1.0.0", "1.0.", ".1.0", "00.1", "00.0", "01.5", "-1.0", "1.0e1", "1.e1", "1.-0", "1. 0", "1 .0", "1.0 ", "1,0", "0x1.0", "1.0x", "x.0", "1.\u0661", "1.1_1",
		digits + ".1", digits + ".", "." + digits, digits[:20] + "." + digits[19:], "0." + digits, "0" + digits[:20] + "." + digits[20:39],
		"--", "++", "!!", "=", "===", "=<", "=>", "<>", "<<", ">>", "&", "|", "^", "&^", "+ ", " +", ":=", "+=", "|||", "&&&",
	} {
		out[s] = "nothing"
	}
	return out
}

// texts is what the table says of Text.
func texts(kind api.NodeKind) string {
	switch kind {
	case api.NodeFile, api.NodeStruct, api.NodeField, api.NodeFunc, api.NodeType, api.NodeVar, api.NodeName, api.NodeCall, api.NodePart, api.NodeMake, api.NodeKey:
		return "name"
	case api.NodeFor, api.NodeBreak, api.NodeContinue:
		return "name none"
	case api.NodeInt:
		return "int"
	case api.NodeFloat:
		return "float"
	case api.NodeString:
		return "name none word nothing int float unary binary"
	case api.NodeUnary:
		return "unary"
	case api.NodeBinary:
		return "binary"
	}
	return "none"
}

func TestRightText(t *testing.T) {
	for kind := api.NodeFile; kind <= lastKind; kind++ {
		for text, what := range pool() {
			want := false
			for _, w := range strings.Fields(what) {
				for _, may := range strings.Fields(texts(kind)) {
					want = want || w == may
				}
			}
			n := sample(kind)
			n.Text = text
			if got := right(within(n)); got != want {
				t.Errorf("kind %d, Text %q: %t", kind, text, got)
			}
		}
	}
}

func TestRightNum(t *testing.T) {
	for kind := api.NodeFile; kind <= lastKind; kind++ {
		for _, num := range []int{0, 1, 2, 3, 98, 99, 100, 1 << 31, 1 << 32, 1 << 62, math.MaxInt, -1, -2, -99, math.MinInt, math.MinInt + 1} {
			want := num == 0
			switch kind {
			case api.NodeDefine, api.NodeAssign: // the sample has Kids for 1
				want = num == 1
			case api.NodeBool:
				want = num == 0 || num == 1
			case api.NodeDollar:
				want = num >= 0 && num <= 99
			}
			n := sample(kind)
			n.Num = num
			if got := right(within(n)); got != want {
				t.Errorf("kind %d, Num %d: %t", kind, num, got)
			}
		}
	}
}

func TestRightNumWithoutKids(t *testing.T) {
	for _, kind := range []api.NodeKind{api.NodeDefine, api.NodeAssign} {
		for _, num := range []int{0, 1, 2, -1, 1 << 31, 1 << 62, 1<<62 + 1, math.MaxInt, math.MinInt} {
			for _, kids := range [][]api.Node{nil, {name("x")}, {whole("1")}, {sample(api.NodeCall)}} {
				if right(block(with(kind, num, kids...))) {
					t.Errorf("kind %d, Num %d, %d Kids", kind, num, len(kids))
				}
			}
		}
	}
}

func TestRightManyNamesAndPlaces(t *testing.T) {
	call := sample(api.NodeCall)
	for _, n := range []int{2, 3, 10, 1000} {
		names := make([]api.Node, n)
		for i := range names {
			names[i] = name("x")
		}
		kids := func(more ...api.Node) []api.Node { return append(append([]api.Node{}, names...), more...) }
		for i, c := range []struct {
			kind  api.NodeKind
			num   int
			kids  []api.Node
			right bool
		}{
			{api.NodeDefine, n, kids(call), true}, {api.NodeDefine, n, kids(name("x")), false}, {api.NodeDefine, n, kids(names...), false}, {api.NodeDefine, n, kids(), false}, {api.NodeDefine, n, kids(call, call), false},
			{api.NodeDefine, n - 1, kids(call), false}, {api.NodeDefine, n + 1, kids(call), false},
			{api.NodeAssign, n, kids(call), true}, {api.NodeAssign, n, kids(name("x")), false}, {api.NodeAssign, n, kids(names...), true}, {api.NodeAssign, n, kids(), false},
			{api.NodeAssign, n, kids(append(names[1:n:n], call)...), true}, {api.NodeAssign, n, kids(append(names[:n:n], call)...), false}, {api.NodeAssign, n, kids(append(names[:n:n], names...)...), false},
			{api.NodeAssign, n - 1, kids(call), n == 3}, {api.NodeAssign, n + 1, kids(call), false},
		} {
			if got := right(block(with(c.kind, c.num, c.kids...))); got != c.right {
				t.Errorf("%d of %d: %t", i, n, got)
			}
		}
	}
}

func TestRightPlaces(t *testing.T) {
	x, one, call := name("x"), whole("1"), of(api.NodeCall, "f")
	part := func(n api.Node) api.Node { return of(api.NodePart, "a", n) }
	index := func(n, at api.Node) api.Node { return of(api.NodeIndex, "", n, at) }
	upTo := func(n api.Node) api.Node { return of(api.NodeUpTo, "", n, one) }
	deep := x
	for range 25 {
		deep = part(index(deep, call))
	}
	for i, c := range []struct {
		place api.Node
		right bool
	}{
		{x, true}, {with(api.NodeDollar, 0), true}, {with(api.NodeDollar, 7), true}, {part(x), true}, {index(x, one), true}, {part(with(api.NodeDollar, 0)), true}, {index(with(api.NodeDollar, 1), one), true},
		{part(part(x)), true}, {part(index(x, one)), true}, {index(part(x), one), true}, {index(index(x, one), call), true}, {index(x, upTo(call)), true}, {index(x, index(call, one)), true}, {deep, true}, {part(part(part(index(index(x, one), one)))), true},
		{one, false}, {call, false}, {part(call), false}, {part(one), false}, {index(call, x), false}, {index(one, x), false}, {upTo(x), false}, {part(upTo(x)), false}, {index(upTo(x), x), false}, {part(index(call, x)), false}, {index(part(call), x), false}, {part(part(part(call))), false},
		{of(api.NodeUnary, "-", x), false}, {of(api.NodeBinary, "+", x, x), false}, {of(api.NodeString, "x"), false}, {with(api.NodeBool, 1), false}, {sample(api.NodeList), false}, {sample(api.NodeMake), false}, {part(sample(api.NodeMake)), false}, {index(sample(api.NodeList), one), false},
		{of(api.NodePart, "a"), false}, {of(api.NodeIndex, ""), false}, {of(api.NodeIndex, "", x), false}, {part(of(api.NodePart, "a")), false}, {of(api.NodePart, "a", x, x), false}, {of(api.NodeIndex, "", x, one, one), false}, {of(api.NodePart, "", x), false}, {of(api.NodePart, "a", name("go")), false}, {with(api.NodeDollar, 100), false}, {part(with(api.NodeDollar, -1)), false},
	} {
		for _, n := range []api.Node{with(api.NodeAssign, 1, c.place, x), with(api.NodeAssign, 2, x, c.place, x, x), with(api.NodeAssign, 2, c.place, x, call)} {
			if got := right(block(n)); got != c.right {
				t.Errorf("%d, Num %d: %t", i, n.Num, got)
			}
		}
	}
}

func TestRightAt(t *testing.T) {
	for _, n := range riches() {
		for _, at := range []int{0, 1, 1 << 31, math.MaxInt} {
			if !right(placed(n, func(int) int { return at })) {
				t.Errorf("all At's %d: not right", at)
			}
		}
	}
	for kind := api.NodeFile; kind <= lastKind; kind++ {
		for _, at := range []int{0, 1, math.MaxInt, -1, -2, math.MinInt} {
			n := sample(kind)
			n.At = at
			if got := right(within(n)); got != (at >= 0) {
				t.Errorf("kind %d, At %d: %t", kind, at, got)
			}
		}
	}
}

func TestRightIsAFileOrAnAction(t *testing.T) {
	for kind := range api.NodeKind(255) {
		want := kind == api.NodeFile || kind == api.NodeBlock
		if got := right(sample(kind)); got != want {
			t.Errorf("kind %d: %t", kind, got)
		}
	}
	if right(api.Node{}) || right(sample(255)) {
		t.Error("nothing is right")
	}
}

func TestRightOfKindsThatThereAreNot(t *testing.T) {
	for _, kind := range []api.NodeKind{0, lastKind + 1, lastKind + 2, 64, 128, 254, 255} {
		bad := sample(kind)
		for i, n := range []api.Node{file(bad), block(bad), block(tell(bad)), file(function(bad)), block(of(api.NodeVar, "v", bad)), block(with(api.NodeAssign, 1, bad, name("x"))), block(with(api.NodeDefine, 1, bad, name("x"))), block(tell(nested(20, bad)))} {
			if right(n) {
				t.Errorf("kind %d, %d", kind, i)
			}
		}
	}
}

func TestRightDollars(t *testing.T) {
	dollar := with(api.NodeDollar, 1)
	for i, say := range []api.Node{
		tell(dollar), tell(nested(10, dollar)), with(api.NodeAssign, 1, with(api.NodeDollar, 0), whole("1")), with(api.NodeAssign, 1, of(api.NodePart, "a", dollar), whole("1")), with(api.NodeDefine, 1, name("x"), dollar),
		of(api.NodeFor, "", dollar, block()), of(api.NodeSwitch, "", name("x"), of(api.NodeCase, "", dollar, block())), of(api.NodeIf, "", name("x"), block(), of(api.NodeIf, "", dollar, block())), tell(of(api.NodeMake, "T", of(api.NodeKey, "a", dollar))), of(api.NodeDo, "", of(api.NodeCall, "f", dollar)), of(api.NodeVar, "v", typed("int"), dollar),
	} {
		if !right(block(say)) || !right(block(block(say))) {
			t.Errorf("%d: not right in an action", i)
		}
		if right(file(function(say))) || right(file(function(), function(block(block(say))), function())) {
			t.Errorf("%d: right in a file", i)
		}
	}
}

func TestRightExamples(t *testing.T) {
	two := of(api.NodeBinary, "+", with(api.NodeDollar, 1), whole("2"))
	for i, c := range []struct {
		n     api.Node
		right bool
	}{
		{file(), true}, {block(), true}, {block(with(api.NodeAssign, 1, with(api.NodeDollar, 0), two)), true},
		{two, false}, {file(function(tell(two))), false}, {block(tell(whole("007"))), false}, {block(with(api.NodeAssign, 1, of(api.NodeCall, "f"), whole("1"))), false},
		{block(tell(of(api.NodeString, strings.Repeat("\x00\xff", 1<<16)))), true},
	} {
		if got := right(c.n); got != c.right {
			t.Errorf("%d: %t", i, got)
		}
	}
}

// TestRightAllThatIsInIt breaks each node of a rich tree in turn.
func TestRightAllThatIsInIt(t *testing.T) {
	seen := map[api.NodeKind]bool{}
	for _, n := range riches() {
		if !right(n) {
			t.Fatal("not right")
		}
		for i := range allOf(&n) {
			for j, breaks := range []func(p *api.Node){
				func(p *api.Node) { p.Kind = 0 }, func(p *api.Node) { p.Kind = lastKind + 1 }, func(p *api.Node) { p.At = -1 }, func(p *api.Node) { p.Num = -1 },
				func(p *api.Node) { p.Text += " " }, func(p *api.Node) { p.Kids = append(p.Kids, api.Node{}) }, func(p *api.Node) { p.Kids = append([]api.Node{{}}, p.Kids...) }, func(p *api.Node) { p.Kids = append(p.Kids, file()) },
			} {
				broken := copied(n)
				p := allOf(&broken)[i]
				seen[p.Kind] = true
				if p.Kind == api.NodeString && j == 4 {
					continue
				}
				if breaks(p); right(broken) {
					t.Errorf("node %d broken by %d is right", i, j)
				}
			}
		}
	}
	if len(seen) != int(lastKind) {
		t.Errorf("%d kinds", len(seen))
	}
}

func TestRightDepth(t *testing.T) {
	blocks := func(n int) api.Node { // n deep
		out := block()
		for range n - 1 {
			out = block(out)
		}
		return out
	}
	part := name("x")
	for range 57 {
		part = of(api.NodePart, "a", part)
	}
	for i, c := range []struct {
		n     api.Node
		right bool
	}{
		{blocks(59), true}, {blocks(60), true}, {blocks(61), false}, {blocks(62), false}, {blocks(1000), false},
		{file(function(blocks(57).Kids...)), true}, {file(function(blocks(58).Kids...)), true}, {file(function(blocks(59).Kids...)), false},
		{block(tell(nested(57, name("x")))), true}, {block(tell(nested(58, name("x")))), false}, {block(tell(name("x")), tell(nested(57, name("x"))), tell(name("x"))), true}, {block(tell(name("x")), tell(nested(58, name("x"))), tell(name("x"))), false},
		{block(with(api.NodeAssign, 1, part, name("x"))), true}, {block(with(api.NodeAssign, 1, of(api.NodePart, "a", part), name("x"))), false},
	} {
		if got := right(c.n); got != c.right {
			t.Errorf("%d: %t", i, got)
		}
	}
}

func TestRightMany(t *testing.T) {
	breaks := func(n int) []api.Node {
		out := make([]api.Node, n)
		for i := range out {
			out[i] = of(api.NodeBreak, "")
		}
		return out
	}
	funcs := func(n int) []api.Node {
		out := make([]api.Node, n)
		for i := range out {
			out[i] = function()
		}
		return out
	}
	for i, c := range []struct {
		n     api.Node
		right bool
	}{
		{block(breaks(1<<15 - 2)...), true}, {block(breaks(1<<15 - 1)...), true}, {block(breaks(1 << 15)...), false}, {block(breaks(1<<15 + 1)...), false}, {block(breaks(1 << 20)...), false},
		{block(tell(of(api.NodeUnary, "!", sum(1<<14-1)))), true}, {block(tell(of(api.NodeUnary, "-", of(api.NodeUnary, "!", sum(1<<14-1))))), false}, {block(tell(sum(1 << 14))), false}, {block(tell(sum(1<<14 - 1))), true},
		{file(append(funcs(1<<13-1), of(api.NodeStruct, "T"), of(api.NodeStruct, "T"), of(api.NodeStruct, "T"))...), true}, {file(funcs(1 << 13)...), false}, {file(append(funcs(1<<13-1), function(of(api.NodeBreak, "")))...), false},
		{file(function(breaks(1<<15 - 5)...)), true}, {file(function(breaks(1<<15 - 4)...)), false}, {file(function(breaks(1<<14)...), function(breaks(1<<14)...)), false},
		{block(tell(doubled(13, name("x")))), true}, {block(tell(doubled(14, name("x")))), false},
	} {
		if got := right(c.n); got != c.right {
			t.Errorf("%d: %t", i, got)
		}
	}
}

// TestRightEnds asks of trees that are far more than memory could hold spelled out, and of lists that hold themselves.
func TestRightEnds(t *testing.T) {
	for _, n := range []int{30, 50, 56, 60, 64, 1000} {
		if right(block(tell(doubled(n, name("x"))))) {
			t.Errorf("doubled %d times: right", n)
		}
	}
	round := []api.Node{block()}
	round[0].Kids = round
	part := []api.Node{of(api.NodePart, "a")}
	part[0].Kids = part
	index := []api.Node{of(api.NodeIndex, ""), whole("1")}
	index[0].Kids = index
	for i, n := range []api.Node{block(round...), round[0], file(function(round...)), block(tell(part...)), block(with(api.NodeAssign, 1, part[0], name("x"))), block(with(api.NodeAssign, 1, index[0], name("x"))), block(tell(index...))} {
		if right(n) {
			t.Errorf("%d, that holds itself: right", i)
		}
	}
	if right(block(tell(nested(1<<20, name("x"))))) {
		t.Error("deep: right")
	}
}

// TestRightLessOrTurned: P2.3.
func TestRightLessOrTurned(t *testing.T) {
	for _, n := range riches() {
		for i := range n.Kids {
			less := copied(n)
			less.Kids = append(less.Kids[:i], less.Kids[i+1:]...)
			if !right(less) {
				t.Errorf("kind %d without Kid %d: not right", n.Kind, i)
			}
			for j := range i {
				turned := copied(n)
				turned.Kids[i], turned.Kids[j] = turned.Kids[j], turned.Kids[i]
				if !right(turned) {
					t.Errorf("kind %d with Kids %d and %d changed about: not right", n.Kind, i, j)
				}
			}
		}
	}
}
