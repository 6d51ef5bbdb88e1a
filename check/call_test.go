package check_test

import (
	"strings"
	"testing"

	"gristmill/api"
)

// P7.3.
func TestCalls(t *testing.T) {
	t.Parallel()
	for x, of := range map[string]string{"one()": "int", "word()": "string", "gives(n, s, b)": "[]string", "gives(1, \"a\", true)": "[]string", "gives(one(), word(), !b)[n]": "string", "gives(len(gives(n, s, b)), gives(n, s, b)[n], b)": "[]string"} {
		isOf(t, x, of)
	}
	for _, name := range strings.Fields("undeclared int bool string pair tree n s p print cap make nil Len f2") {
		failsAsX(t, "^"+name+"(undeclared, two())", api.ErrName, "Call:"+name)
		failsAsX(t, "^"+name+"()", api.ErrName, "Call:"+name)
	}
	for _, x := range []string{"one(undeclared)", "one(1, 2)", "gives()", "gives(n, s)", "gives(undeclared)", "gives(n, s, b, undeclared)", "gives(two(), b)", "gives(three())", "takes()", "f()"} {
		failsAsX(t, "^"+x, api.ErrCount, "Call:"+x[:strings.Index(x, "(")])
	}
	for _, x := range []string{"none()", "two()", "three()", "pairs()", "takes(b)"} {
		failsAsX(t, "^"+x, api.ErrCount, "Call:"+x[:strings.Index(x, "(")])
	}
	failsAsX(t, "gives(^s, undeclared, two())", api.ErrType, "Name:s")
	failsAsX(t, "gives(n, ^n, undeclared)", api.ErrType, "Name:n")
	failsAsX(t, "gives(n, s, ^1)", api.ErrType, "Int:1")
	failsAsX(t, "gives(^undeclared, n, n)", api.ErrName, "Name:undeclared")
	failsAsX(t, "gives(n, ^undeclared, n)", api.ErrName, "Name:undeclared")
	failsAsX(t, "gives(n, ^two(), n)", api.ErrCount, "Call:two")
	failsAsX(t, "gives(n, s, ^none())", api.ErrCount, "Call:none")
	failsAsX(t, "takes(^gives(n, s, b))", api.ErrType, "Call:gives")
	passes(t, "package p; func f(a int, b []t, c t) t { return f(f2(), g(b), f(1, b, c)) }; type t struct { }; func g(a []t) []t { return a }; func f2() int { return 1 }")
	fails(t, "package p; func f(a int, b []t, c t) t { return f(f2(), ^c, b) }; type t struct { }; func f2() int { return 1 }", api.ErrType, "Name:c")
}

func TestLen(t *testing.T) {
	t.Parallel()
	for _, x := range []string{"s", `"a"`, `""`, "l", "ts", "ls", "ls[0]", "w", "word()", "[]int{}", "append(l, 1)", "p.b", "s + s", "q.kids[:1]"} {
		isOf(t, "len("+x+")", "int")
	}
	for x, at := range map[string]string{"n": "Name:n", "b": "Name:b", "x": "Name:x", "p": "Name:p", "1": "Int:1", "1.5": "Float:1.5", "true": "Bool", "one()": "Call:one", "q.of": "Part:of", "tree{}": "Make:tree"} {
		failsAsX(t, "len(^"+x+")", api.ErrType, at)
	}
	failsAsX(t, "^len()", api.ErrCount, "Call:len")
	failsAsX(t, "^len(s, s)", api.ErrCount, "Call:len")
	failsAsX(t, "^len(undeclared, undeclared)", api.ErrCount, "Call:len")
	failsAsX(t, "len(^undeclared)", api.ErrName, "Name:undeclared")
	failsAsX(t, "len(^two())", api.ErrCount, "Call:two")
	failsAsX(t, "len(^none())", api.ErrCount, "Call:none")
}

func TestFloat(t *testing.T) {
	t.Parallel()
	for _, x := range []string{"n", "1", "-1", "len(s)", "one()", "l[0]", "n + 1", "p.a", "-n"} {
		isOf(t, "float64("+x+")", "float64")
	}
	for x, at := range map[string]string{"s": "Name:s", "b": "Name:b", "x": "Name:x", "p": "Name:p", "l": "Name:l", "1.5": "Float:1.5", "true": "Bool", "word()": "Call:word", "float64(n)": "Call:float64", `"a"`: "String:a"} {
		failsAsX(t, "float64(^"+x+")", api.ErrType, at)
	}
	failsAsX(t, "^float64()", api.ErrCount, "Call:float64")
	failsAsX(t, "^float64(undeclared, 2)", api.ErrCount, "Call:float64")
	failsAsX(t, "float64(^undeclared)", api.ErrName, "Name:undeclared")
	failsAsX(t, "float64(^two())", api.ErrCount, "Call:two")
	failsAsX(t, "float64(^none())", api.ErrCount, "Call:none")
}

func TestPanic(t *testing.T) {
	t.Parallel()
	isIn(t, "panic(s); panic(\"a\"); panic(word()); panic(s + s); panic(w[0]); panic(p.b)")
	for x, at := range map[string]string{"n": "Name:n", "b": "Name:b", "x": "Name:x", "p": "Name:p", "w": "Name:w", "1": "Int:1", "one()": "Call:one"} {
		failsIn(t, "panic(^"+x+"); undeclared()", api.ErrType, at)
		failsAsX(t, "panic(^"+x+")", api.ErrType, at)
	}
	failsAsX(t, "^panic(s)", api.ErrCount, "Call:panic")
	failsAsX(t, "^panic()", api.ErrCount, "Call:panic")
	failsAsX(t, "^panic(undeclared, s)", api.ErrCount, "Call:panic")
	failsAsX(t, "panic(^undeclared)", api.ErrName, "Name:undeclared")
	failsAsX(t, "panic(^panic(s))", api.ErrCount, "Call:panic")
	failsAsX(t, "panic(^two())", api.ErrCount, "Call:two")
}

func TestAppend(t *testing.T) {
	t.Parallel()
	for x, of := range map[string]string{"append(l, 1)": "[]int", "append(l, n, one(), l[0])": "[]int", "append(ls, l)": "[][]int", "append(ts, q, tree{})": "[]tree", "append(append(l, 1), 2)": "[]int", "append([]string{}, s, \"a\")": "[]string", "append(q.kids, q)": "[]tree", "append(ls[0][:1], 2)": "[]int"} {
		isOf(t, x, of)
	}
	for x, at := range map[string]string{"n": "Name:n", "s": "Name:s", "p": "Name:p", "1": "Int:1", "one()": "Call:one", "q.of": "Part:of", "pair{}": "Make:pair"} {
		failsAsX(t, "append(^"+x+", undeclared)", api.ErrType, at)
		failsAsX(t, "append(^"+x+", "+x+")", api.ErrType, at)
	}
	failsAsX(t, "^append()", api.ErrCount, "Call:append")
	failsAsX(t, "^append(l)", api.ErrCount, "Call:append")
	failsAsX(t, "^append(undeclared)", api.ErrCount, "Call:append")
	failsAsX(t, "append(^undeclared, undeclared)", api.ErrName, "Name:undeclared")
	failsAsX(t, "append(^two(), undeclared)", api.ErrCount, "Call:two")
	failsAsX(t, "append(l, ^s, undeclared)", api.ErrType, "Name:s")
	failsAsX(t, "append(l, ^l)", api.ErrType, "Name:l")
	failsAsX(t, "append(ls, l, ^n)", api.ErrType, "Name:n")
	failsAsX(t, "append(l, 1, 2, ^1.5, undeclared)", api.ErrType, "Float:1.5")
	failsAsX(t, "append(l, ^undeclared, s)", api.ErrName, "Name:undeclared")
	failsAsX(t, "append(l, 1, ^two())", api.ErrCount, "Call:two")
	failsAsX(t, "append(l, ^none(), s)", api.ErrCount, "Call:none")
}

func TestLists(t *testing.T) {
	t.Parallel()
	for x, of := range map[string]string{"[]int{}": "[]int", "[]int{1, n, one(), 1}": "[]int", "[][]int{l, []int{1}, ls[0]}": "[][]int", "[]pair{p, pair{}}": "[]pair", "[]tree{q}": "[]tree", "[]string{\"a\", s}": "[]string", "[][]tree{}": "[][]tree"} {
		isOf(t, x, of)
	}
	for _, name := range strings.Fields("undeclared n one len append panic nil Pair") {
		failsAsX(t, "[]^"+name+"{}", api.ErrName, "Type:"+name)
		failsAsX(t, "[][]^"+name+"{undeclared, two()}", api.ErrName, "Type:"+name)
	}
	failsAsX(t, "[]int{^s, undeclared}", api.ErrType, "Name:s")
	failsAsX(t, "[]int{1, n, ^l, undeclared}", api.ErrType, "Name:l")
	failsAsX(t, "[][]int{l, ^1}", api.ErrType, "Int:1")
	failsAsX(t, "[]float64{1.5, ^1}", api.ErrType, "Int:1")
	failsAsX(t, "[]pair{p, ^q}", api.ErrType, "Name:q")
	failsAsX(t, "[]int{^undeclared, s}", api.ErrName, "Name:undeclared")
	failsAsX(t, "[]int{1, ^two()}", api.ErrCount, "Call:two")
	failsAsX(t, "[]int{^none(), s}", api.ErrCount, "Call:none")
}

func TestMakings(t *testing.T) {
	t.Parallel()
	for x, of := range map[string]string{"pair{}": "pair", "pair{a: 1}": "pair", "pair{b: s, a: n}": "pair", "tree{of: p, kids: ts, float64: 1.5}": "tree", "tree{of: pair{a: 1}}": "tree"} {
		isOf(t, x, of)
	}
	for _, name := range strings.Fields("undeclared n one int bool string float64 len f Pair") {
		failsAsX(t, "^"+name+"{}", api.ErrName, "Make:"+name)
		failsAsX(t, "^"+name+"{a: undeclared, a: 1}", api.ErrName, "Make:"+name)
	}
	failsAsX(t, "pair{^c: undeclared}", api.ErrName, "Key:c")
	failsAsX(t, "pair{a: 1, ^kids: s}", api.ErrName, "Key:kids")
	failsAsX(t, "pair{^c: 1, c: 2}", api.ErrName, "Key:c")
	failsAsX(t, "pair{a: ^s, c: 1}", api.ErrType, "Name:s")
	failsAsX(t, "pair{a: 1, ^a: undeclared}", api.ErrTwice, "Key:a")
	failsAsX(t, "pair{a: 1, b: s, ^a: 1, b: n}", api.ErrTwice, "Key:a")
	failsAsX(t, "pair{a: 1, b: s, ^b: 1, c: n}", api.ErrTwice, "Key:b")
	failsAsX(t, "pair{a: ^undeclared, a: 1}", api.ErrName, "Name:undeclared")
	failsAsX(t, "pair{a: ^two()}", api.ErrCount, "Call:two")
	failsAsX(t, "pair{a: ^none(), c: 1}", api.ErrCount, "Call:none")
	failsAsX(t, "tree{of: ^q}", api.ErrType, "Name:q")
	failsAsX(t, "tree{kids: ^q}", api.ErrType, "Name:q")
	failsAsX(t, "tree{float64: ^1}", api.ErrType, "Int:1")
	failsAsX(t, "tree{of: pair{b: ^1}, c: 1}", api.ErrType, "Int:1")
	isIn(t, "p = pair{a: pair{a: 1}.a, b: pair{a: 2, b: s}.b}")
}
