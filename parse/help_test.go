package parse_test

import (
	"strconv"
	"strings"
	"testing"

	"gristmill/api"
	"gristmill/parse"
)

var kinds = strings.Fields("None File Struct Field Func Params Results Type Slice Block Var Define Assign If For Switch Case Return Break Continue Do Int Float String Bool Name Unary Binary Call Index UpTo Part List Make Key Dollar")

// spell is a tree as a text, each node with its place, if that is asked for.
func spell(n api.Node, places bool) string {
	s := kinds[n.Kind]
	if n.Text != "" {
		s += ":" + n.Text
	}
	if n.Num != 0 {
		s += "#" + strconv.Itoa(n.Num)
	}
	if places {
		s += "@" + strconv.Itoa(n.At)
	}
	if len(n.Kids) == 0 {
		return s
	}
	var kids []string
	for _, k := range n.Kids {
		kids = append(kids, spell(k, places))
	}
	return s + "(" + strings.Join(kids, " ") + ")"
}

func short(s string) string {
	if len(s) > 300 {
		return strconv.Quote(s[:300]) + ".."
	}
	return strconv.Quote(s)
}

type reader func(string) (api.Node, api.Fault)

// is asks for a tree without its places.
func is(t *testing.T, read reader, s, want string) {
	t.Helper()
	n, f := read(s)
	if got := spell(n, false); f != (api.Fault{}) || got != want {
		t.Errorf("%s: %v %s, not %s", short(s), f, short(got), short(want))
	}
}

// stands asks for a tree with its places.
func stands(t *testing.T, read reader, s, want string) {
	t.Helper()
	n, f := read(s)
	if got := spell(n, true); f != (api.Fault{}) || got != want {
		t.Errorf("%s: %v %s, not %s", short(s), f, short(got), short(want))
	}
}

// isStatement asks for the only statement of an action, and for the same one in a function of a file.
func isStatement(t *testing.T, s, want string) {
	t.Helper()
	is(t, parse.Action, s, "Block("+want+")")
	is(t, parse.File, "package p; func f() { "+s+"\n}", "File:p(Func:f(Params Results Block("+want+")))")
}

func isExpression(t *testing.T, s, want string) {
	t.Helper()
	isStatement(t, "x = "+s, "Assign#1(Name:x "+want+")")
}

// fails asks for a fault, and that nothing else is told.
func fails(t *testing.T, read reader, s string, e api.Errno, at int) {
	t.Helper()
	n, f := read(s)
	if f != (api.Fault{Err: e, At: at}) || spell(n, true) != "None@0" || n.Kids != nil {
		t.Errorf("%s: %v %s, not {%d %d}", short(s), f, short(spell(n, true)), e, at)
	}
}

// stops asks an action, and the same one in a function of a file, for a syntax error where a ^ stands, which is taken out.
func stops(t *testing.T, marked string) {
	t.Helper()
	head := "package p; func f() { "
	at := strings.Index(marked, "^")
	s := marked[:at] + marked[at+1:]
	fails(t, parse.Action, s, api.ErrSyntax, at)
	if at < len(s) {
		fails(t, parse.File, head+s+"\n}", api.ErrSyntax, len(head)+at)
	}
}
