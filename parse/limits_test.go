package parse_test

import (
	"slices"
	"strings"
	"testing"

	"gristmill/api"
	"gristmill/node"
	"gristmill/parse"
)

// isRight asks for a tree so deep.
func isRight(t *testing.T, read reader, s string, deep int) {
	t.Helper()
	n, f := read(s)
	if f != (api.Fault{}) || node.Deep(n) != deep || !node.Right(n) {
		t.Errorf("%s: %v, %d deep, not %d", short(s), f, node.Deep(n), deep)
	}
}

// nests are ways in which parts may be put in one another: what stands around all, ahead of a part and behind it, within all, how deep all is with none of them, and how much deeper with each.
var nests = []struct {
	head, before, middle, behind, tail string
	none, each                         int
}{
	{"", "{", "", "}", "", 1, 1},
	{"", "{", "f()", "}", "", 3, 1},
	{"", "if a {", "", "}", "", 1, 2},
	{"", "if a {} else {", "", "}", "", 1, 2},
	{"", "if a {} else ", "if a {}", "", "", 3, 1},
	{"", "for {", "", "}", "", 1, 2},
	{"", "l: for a {", "", "}", "", 1, 2},
	{"", "switch a { case 1: ", "", "}", "", 1, 3},
	{"", "switch a { default: ", "f(a)", "}", "", 4, 3},
	{"var x ", "[]", "int", "", "", 3, 1},
	{"x = ", "!", "a", "", "", 3, 1},
	{"x = ", "- ", "a", "", "", 3, 1},
	{"x = ", "f(", "a", ")", "", 3, 1},
	{"x = ", "a[", "a", "]", "", 3, 1},
	{"x = ", "a[:", "a", "]", "", 3, 1},
	{"x[", "a[", "a", "]", "] = 1", 4, 1},
	{"x = ", "[]int{", "[]int{}", "}", "", 5, 1},
	{"x = ", "p{a: ", "a", "}", "", 3, 2},
	{"x = ", "(a + ", "a", ")", "", 3, 1},
	{"x = ", "", "a", " + a", "", 3, 1},
	{"x = ", "", "a", " && a", "", 3, 1},
	{"x = ", "", "a", ".a", "", 3, 1},
	{"", "", "x", ".a", " = 1", 3, 1},
	{"", "", "x", "[0]", " = 1", 3, 1},
	{"x = ", "", "a", "[0]", "", 3, 1},
	{"x = ", "", "a", "[:1]", "", 3, 1},
	{"return ", "f(", "a", ")", "", 3, 1},
	{"f(", "f(", "a", ")", ")", 4, 1},
	{"x := ", "f(", "a", ")", "", 3, 1},
	{"x, y := f(", "f(", "a", ")", ")", 4, 1},
	{"x, y = a, ", "f(", "a", ")", "", 3, 1},
	{"if ", "f(", "a", ")", " {}", 3, 1},
	{"for ", "f(", "a", ")", " {}", 3, 1},
	{"switch ", "f(", "a", ")", " {}", 3, 1},
	{"switch a { case ", "f(", "a", ")", ": }", 4, 1},
}

func TestDepth(t *testing.T) {
	for _, n := range nests {
		for _, many := range []int{0, 1, 2, 10, 18} {
			isRight(t, parse.Action, n.head+nested(n.before, many, n.middle, n.behind)+n.tail, n.none+many*n.each)
		}
		fits := (60 - n.none) / n.each
		isRight(t, parse.Action, n.head+nested(n.before, fits, n.middle, n.behind)+n.tail, n.none+fits*n.each)
		fails(t, parse.Action, n.head+nested(n.before, fits+1, n.middle, n.behind)+n.tail, api.ErrDeep, 0)
		// A file is two deeper: the node of the function, and its own.
		fits = (58 - n.none) / n.each
		head, tail := "package p; func f() { "+n.head, n.tail+"\n}"
		isRight(t, parse.File, head+nested(n.before, fits, n.middle, n.behind)+tail, 2+n.none+fits*n.each)
		fails(t, parse.File, head+nested(n.before, fits+1, n.middle, n.behind)+tail, api.ErrDeep, 0)
	}
}

func TestDepthOfTypes(t *testing.T) {
	for s, none := range map[string]int{"package p; type t struct { a ?int }": 4, "package p; func f(a ?int) {}": 5, "package p; func f() ?int {}": 4, "package p; func f() (int, ?int) {}": 4} {
		isRight(t, parse.File, strings.Replace(s, "?", strings.Repeat("[]", 60-none), 1), 60)
		fails(t, parse.File, strings.Replace(s, "?", strings.Repeat("[]", 61-none), 1), api.ErrDeep, 0)
		fails(t, parse.File, strings.Replace(s, "?", strings.Repeat("[]", 30000), 1), api.ErrDeep, 0)
	}
}

// many counts a tree's nodes.
func many(n api.Node) int {
	sum := 1
	for _, k := range n.Kids {
		sum += many(k)
	}
	return sum
}

func hasMany(t *testing.T, read reader, s string, want int) {
	t.Helper()
	n, f := read(s)
	if f != (api.Fault{}) || many(n) != want || !node.Right(n) {
		t.Errorf("%s: %v, %d nodes, not %d", short(s), f, many(n), want)
	}
}

// argumentsOf are so many nodes as arguments of a call, of a byte and a half each.
func argumentsOf(nodes int) string {
	return strings.Repeat("-b,", nodes/2) + strings.Repeat("b,", nodes%2)
}

func TestHowMany(t *testing.T) {
	t.Parallel()
	const most = 1 << 15
	// Ahead of the arguments there are, of an action, the block, the statement, the call.
	for nodes := most - 5; nodes <= most; nodes++ {
		hasMany(t, parse.Action, "f("+argumentsOf(nodes-3)+")", nodes)
		hasMany(t, parse.Action, "{{}};f("+argumentsOf(nodes-5)+")", nodes)
		hasMany(t, parse.File, "package p;func g(){f("+argumentsOf(nodes-7)+")}", nodes)
		hasMany(t, parse.File, "package p;type t struct{};func g(){f("+argumentsOf(nodes-8)+")}", nodes)
	}
	for _, more := range []int{1, 2, 3, 100, 1000, 5000} {
		fails(t, parse.Action, "f("+argumentsOf(most+more-3)+")", api.ErrMany, 0)
		fails(t, parse.Action, "{{}};f("+argumentsOf(most+more-5)+")", api.ErrMany, 0)
		fails(t, parse.File, "package p;func g(){f("+argumentsOf(most+more-7)+")}", api.ErrMany, 0)
		fails(t, parse.File, "package p;type t struct{};func g(){f("+argumentsOf(most+more-8)+")}", api.ErrMany, 0)
	}
	hasMany(t, parse.Action, strings.Repeat("a=!!!b;", most/6), 1+most/6*6)
	fails(t, parse.Action, strings.Repeat("a=!!!b;", most/6+1), api.ErrMany, 0)
	hasMany(t, parse.Action, strings.Repeat("{};", 1<<16/3), 1+1<<16/3)
}

func TestWhichFaultIsFirst(t *testing.T) {
	tooMany, tooDeep := "f("+argumentsOf(1<<15)+")", "a="+strings.Repeat("!", 58)+"b"
	fails(t, parse.Action, tooMany, api.ErrMany, 0)
	fails(t, parse.Action, tooDeep, api.ErrDeep, 0)
	fails(t, parse.Action, tooMany+";"+tooDeep, api.ErrDeep, 0)
	fails(t, parse.Action, tooDeep+";"+tooMany, api.ErrDeep, 0)
	fails(t, parse.Action, "a="+strings.Repeat("!", 60000)+"b", api.ErrDeep, 0)
	for _, s := range []string{tooMany, tooDeep, tooMany + ";" + tooDeep} {
		fails(t, parse.Action, s+",", api.ErrSyntax, len(s))
		fails(t, parse.Action, s+", #", api.ErrByte, len(s)+2)
		fails(t, parse.Action, s+"; $$ = 007", api.ErrToken, len(s)+7)
	}
}

// TestWhole tells of sources as long as one may be.
func TestWhole(t *testing.T) {
	t.Parallel()
	for _, n := range nests {
		for _, behind := range []string{n.behind, ""} {
			room := 1<<16 - 24 - len(n.head) - len(n.middle) - len(n.tail)
			times := room / (len(n.before) + len(behind) + 1)
			s := n.head + nested(n.before, times, n.middle, behind) + n.tail
			deep := behind == n.behind
			_, f := parse.Action(s)
			if deep && f != (api.Fault{Err: api.ErrDeep}) || !deep && f.Err != api.ErrSyntax && n.before != "" {
				t.Errorf("%s: %v", short(s), f)
			}
			if !deep && n.before != "" && f.At < len(n.head)+times*len(n.before) {
				t.Errorf("%s: %v, not behind all that was begun", short(s), f)
			}
			_, f = parse.File("package p; func f() { " + s + "\n}")
			if deep && f != (api.Fault{Err: api.ErrDeep}) {
				t.Errorf("file of %s: %v", short(s), f)
			}
		}
	}
}

// Parentheses make no nodes: as many as there is room for may stand.
func TestParentheses(t *testing.T) {
	t.Parallel()
	const times = 1<<15 - 4
	for s, want := range map[string]string{
		"x = " + nested("(", times, "a", ")"):                                 "Block(Assign#1(Name:x Name:a))",
		"x = " + nested("(", times-2, "a + b", ")"):                           "Block(Assign#1(Name:x Binary:+(Name:a Name:b)))",
		"if " + nested("(", times-4, "p{}", ")") + "{}":                       "Block(If(Make:p Block))",
		"f(" + nested("(", 1000, "a", ")") + nested("(", 0, "", ")") + ", b)": "Block(Do(Call:f(Name:a Name:b)))",
	} {
		is(t, parse.Action, s, want)
	}
	n, f := parse.Action("x = " + nested("(", times, "a", ")"))
	if f != (api.Fault{}) || n.Kids[0].Kids[1].At != 4 {
		t.Errorf("%v %s", f, spell(n, true))
	}
	s := "x = " + strings.Repeat("(", 1<<16-4)
	fails(t, parse.Action, s, api.ErrSyntax, 1<<16)
	fails(t, parse.Action, s[:1<<16-2]+"a)", api.ErrSyntax, 1<<16)
	fails(t, parse.Action, "x = "+nested("(", times, "a", ")")+")", api.ErrSyntax, 2*times+5)
	fails(t, parse.Action, s+"(", api.ErrLong, 0)
	fails(t, parse.File, strings.Repeat("[", 1<<16), api.ErrSyntax, 0)
	fails(t, parse.File, strings.Repeat("[", 1<<16+1), api.ErrLong, 0)
}

func TestLongSources(t *testing.T) {
	long := "x = 1" + strings.Repeat(" ", 1<<16-5)
	is(t, parse.Action, long, "Block(Assign#1(Name:x Int:1))")
	fails(t, parse.Action, long+" ", api.ErrLong, 0)
	file := "package p" + strings.Repeat("\n", 1<<16-9)
	is(t, parse.File, file, "File:p")
	fails(t, parse.File, file+"\n", api.ErrLong, 0)
	fails(t, parse.File, long, api.ErrSyntax, 0)
	fails(t, parse.Action, file, api.ErrSyntax, 0)
}

// spoil writes into all of a tree, the room behind its lists too.
func spoil(n *api.Node) {
	n.Kind, n.Text, n.Num, n.At = 99, "spoiled", -1, -1
	room := n.Kids[len(n.Kids):cap(n.Kids)]
	for i := range room {
		room[i].Text = "spoiled"
	}
	for i := range n.Kids {
		spoil(&n.Kids[i])
	}
}

func TestNewMemory(t *testing.T) {
	w := newWriter(6)
	for n := range 500 {
		s := w.spaced(w.tokens("action", n))
		first, f := parse.Action(s)
		if f != (api.Fault{}) {
			continue
		}
		text := spell(first, true)
		for i := range first.Kids {
			before := slices.Concat(spelled(first.Kids[:i]), spelled(first.Kids[i+1:]))
			spoil(&first.Kids[i])
			if after := slices.Concat(spelled(first.Kids[:i]), spelled(first.Kids[i+1:])); !slices.Equal(after, before) {
				t.Fatalf("%s: lists of one answer share memory", short(s))
			}
			first.Kids[i] = api.Node{}
		}
		second, _ := parse.Action(s)
		if spell(second, true) != text {
			t.Errorf("%s: told another time as %s, not %s", short(s), spell(second, true), text)
		}
	}
}

func spelled(kids []api.Node) []string {
	var out []string
	for _, k := range kids {
		if k.Kind != 0 {
			out = append(out, spell(k, true))
		}
	}
	return out
}

func TestTreesAreRight(t *testing.T) {
	w := newWriter(7)
	for n := range 2000 {
		start := []string{"file", "action"}[n%2]
		s := strings.Join(w.tokens(start, n%200), " ")
		if start == "file" {
			s = strings.Join(slicesWithout(strings.Fields(s), "$"), " ")
		}
		tree, f := map[string]reader{"file": parse.File, "action": parse.Action}[start](s)
		if f == (api.Fault{}) && (!node.Right(tree) || node.Deep(tree) > 60) {
			t.Errorf("%s: not right: %s", short(s), spell(tree, false))
		}
	}
}
