package check_test

import (
	"strings"
	"testing"

	"gristmill/api"
)

// arounds are ways in which statements may be around others, and whether they are a for, a switch.
var arounds = []struct {
	head, tail      string
	isFor, isSwitch bool
}{
	{"", "", false, false},
	{"{ ", " }", false, false},
	{"if b { ", " }", false, false},
	{"if b { } else { ", " }", false, false},
	{"if b { } else if b { ", " }", false, false},
	{"for { ", " }", true, false},
	{"for b { ", " }", true, false},
	{"switch n { case 1: ", "\n }", false, true},
	{"switch s { default: ", "\n }", false, true},
	{"switch n { case 1: case 2: ", "\n default: }", false, true},
}

// P7.2.
func TestBreaksAndContinues(t *testing.T) {
	t.Parallel()
	for _, a := range arounds {
		for _, c := range arounds {
			for _, d := range arounds {
				head, tail := a.head+c.head+d.head, d.tail+c.tail+a.tail
				isFor := a.isFor || c.isFor || d.isFor
				leaps(t, head+"^break"+tail, isFor || a.isSwitch || c.isSwitch || d.isSwitch, "Break")
				leaps(t, head+"^continue"+tail, isFor, "Continue")
			}
		}
	}
	for _, s := range []string{"^break; for { }", "for { }; ^break", "switch n { default: }; ^break", "{ for { break } }; ^break", "for { break }; if b { ^break }"} {
		failsIn(t, s, api.ErrLoop, "Break")
	}
	for _, s := range []string{"^continue; for { }", "for { }; ^continue", "for { continue }; switch n { default: ^continue }"} {
		failsIn(t, s, api.ErrLoop, "Continue")
	}
	fails(t, "package p; func f() { for { break } }; func g() { ^break }", api.ErrLoop, "Break")
	fails(t, "package p; func f() { for { continue } }; func g() { ^continue }", api.ErrLoop, "Continue")
}

func leaps(t *testing.T, marked string, may bool, at string) {
	t.Helper()
	if may {
		isIn(t, strings.Replace(marked, "^", "", 1))
	} else {
		failsIn(t, marked, api.ErrLoop, at)
	}
}

func TestLabels(t *testing.T) {
	t.Parallel()
	for word, at := range map[string]string{"break": "Break:a", "continue": "Continue:a"} {
		for _, c := range arounds {
			for _, d := range arounds {
				inner := c.head + d.head + "@" + word + " a" + d.tail + c.tail
				isIn(t, strings.Replace("a: for { "+inner+" }", "@", "", 1))
				isIn(t, strings.Replace("a: for b { n = 1; "+inner+"; n = 2 }", "@", "", 1))
				isIn(t, strings.Replace("c: for { a: for b { "+inner+" }; break c }", "@", "", 1))
				failsIn(t, strings.Replace(inner, "@", "^", 1), api.ErrName, at)
				failsIn(t, strings.Replace("c: for { "+inner+"; break c }", "@", "^", 1), api.ErrName, at)
				failsIn(t, strings.Replace("a: for { break a }; "+inner, "@", "^", 1), api.ErrName, at)
				failsIn(t, strings.Replace(inner+"; a: for { break a }", "@", "^", 1), api.ErrName, at)
			}
		}
		failsIn(t, "for { ^"+word+" a }", api.ErrName, at)
		failsIn(t, "c: for { a: for { n = 1; break a }; "+word+" c; ^"+word+" a }", api.ErrName, at)
		fails(t, "package p; func f() { a: for { break a } }; func g() { for { ^"+word+" a } }", api.ErrName, at)
		failsIn(t, "for { "+strings.Replace("^@ n", "@", word, 1)+" }", api.ErrName, at[:len(at)-1]+"n")
	}
}

func TestReturns(t *testing.T) {
	t.Parallel()
	passes(t, given+"func f() { return }; func g() { if true { return }; return }")
	passes(t, given+"func f() int { return 1 }; func g() (int, string) { return two() }; func h() (int, string, bool) { return three() }; func i(a []int) (int, string) { return a[0], word() }")
	passes(t, given+"func f() (pair, []pair) { if true { return pairs() }; return pair{}, []pair{} }")
	for _, c := range []struct{ results, marked, at string }{
		{"", "^return 1", "Return"}, {"", "^return undeclared", "Return"}, {"", "^return none()", "Return"}, {"", "^return two()", "Return"},
		{"int", "^return", "Return"}, {"int", "^return 1, undeclared", "Return"}, {"int", "return ^two()", "Call:two"}, {"int", "return ^none()", "Call:none"},
		{"(int, string)", "^return", "Return"}, {"(int, string)", "^return 1", "Return"}, {"(int, string)", "^return undeclared", "Return"}, {"(int, string)", "^return -undeclared()", "Return"}, {"(int, string)", "^return 1, \"a\", undeclared", "Return"},
		{"(int, string)", "return ^three()", "Call:three"}, {"(int, string)", "return ^one()", "Call:one"}, {"(int, string)", "return ^none()", "Call:none"}, {"(int, string)", "return ^len(\"a\")", "Call:len"},
		{"(int, string)", "return ^two(), \"a\"", "Call:two"}, {"(int, string)", "return 1, ^two()", "Call:two"}, {"(int, string)", "return 1, ^none()", "Call:none"}, {"(int, string)", "return ^two(undeclared)", "Call:two"},
		{"(int, string, bool)", "^return two(), true", "Return"}, {"(int, string, bool)", "return ^two()", "Call:two"},
	} {
		fails(t, given+"func f() "+c.results+" { "+c.marked+"; undeclared() }", api.ErrCount, c.at)
	}
	for _, c := range []struct{ results, marked, at string }{
		{"int", "return ^\"a\"", "String:a"}, {"int", "return ^pair{}", "Make:pair"}, {"[]int", "return ^1", "Int:1"}, {"(int, string)", "return 1, ^2", "Int:2"}, {"(int, string)", "return ^\"a\", undeclared", "String:a"},
		{"(string, int)", "return ^two()", "Call:two"}, {"(int, bool)", "return ^two()", "Call:two"}, {"(int, []string)", "return ^two()", "Call:two"}, {"(pair, []tree)", "return ^pairs()", "Call:pairs"}, {"(int, string, int)", "return ^three()", "Call:three"},
	} {
		fails(t, given+"func f() "+c.results+" { "+c.marked+"; undeclared() }", api.ErrType, c.at)
	}
	fails(t, given+"func f() int { return ^undeclared }", api.ErrName, "Name:undeclared")
	fails(t, given+"func f() (int, string) { return ^undeclared, 1 }", api.ErrName, "Name:undeclared")
	fails(t, given+"func f() (int, string) { return ^undeclared() }", api.ErrName, "Call:undeclared")
	fails(t, given+"func f() int { return 1 }; func g() string { return ^1 }", api.ErrType, "Int:1")
}

func TestDos(t *testing.T) {
	t.Parallel()
	isIn(t, "none(); one(); two(); three(); takes(b); gives(n, s, b); panic(s); panic(\"a\" + s); f(n, s, b, x, l, w, p, q, ts, ls)")
	failsIn(t, "^len(s)", api.ErrUnused, "Call:len")
	failsIn(t, "^len(undeclared, s)", api.ErrUnused, "Call:len")
	failsIn(t, "^append(l, 1)", api.ErrUnused, "Call:append")
	failsIn(t, "^append()", api.ErrUnused, "Call:append")
	failsIn(t, "^float64(n)", api.ErrUnused, "Call:float64")
	failsIn(t, "^float64(s)", api.ErrUnused, "Call:float64")
	failsIn(t, "panic(^n)", api.ErrType, "Name:n")
	failsIn(t, "^panic()", api.ErrCount, "Call:panic")
	failsIn(t, "^none(undeclared)", api.ErrCount, "Call:none")
	failsIn(t, "takes(^none())", api.ErrCount, "Call:none")
	for _, name := range strings.Fields("undeclared int string bool pair tree n s print f2 init main") {
		failsIn(t, "^"+name+"(undeclared2)", api.ErrName, "Call:"+name)
	}
}
