package check_test

import (
	"strconv"
	"strings"
	"testing"

	"gristmill/api"
)

// P7.2.
func TestSwitches(t *testing.T) {
	t.Parallel()
	isIn(t, "switch n { }; switch s { default: }; switch b { case true: }; switch x { case 1.5: n = 1; default: n = 2\n case x: }; switch one() { case one(), n, 2: }")
	isIn(t, "switch 1 { case 1: }; switch \"a\" { case s: }; switch true { case b: }; switch -1.5 { case x: }; switch n + 1 { case n - 1: }")
	for x, at := range map[string]string{"^l": "Name:l", "^p": "Name:p", "^ts": "Name:ts", "^[]int{1}": "List", "^(pair{})": "Make:pair", "^q.of": "Part:of", "^ls[0]": "Index", "^append(l, 1)": "Call:append"} {
		failsIn(t, "switch "+x+" { }", api.ErrType, at)
		failsIn(t, "switch "+x+" { case undeclared: default: default: }", api.ErrType, at)
	}
	failsIn(t, "switch ^two() { case undeclared: }", api.ErrCount, "Call:two")
	failsIn(t, "switch ^none() { }", api.ErrCount, "Call:none")
	failsIn(t, "switch ^undeclared { default: default: }", api.ErrName, "Name:undeclared")
}

func TestCases(t *testing.T) {
	t.Parallel()
	failsIn(t, "switch n { default: ^default: }", api.ErrTwice, "Case")
	failsIn(t, "switch n { default: n = 1; case 1: ^default: n = s; default: }", api.ErrTwice, "Case")
	failsIn(t, "switch n { case 1: default: case 2: ^default: undeclared() }", api.ErrTwice, "Case")
	failsIn(t, "switch n { default: n = ^s; default: }", api.ErrType, "Name:s")
	failsIn(t, "switch n { default: case ^s: default: }", api.ErrType, "Name:s")
	isIn(t, "switch n { case 1: default: case 2: }; switch n { default: switch n { default: } }")
	for x, at := range map[string]string{"^s": "Name:s", "^b": "Name:b", "^1.0": "Float:1.0", "^\"a\"": "String:a", "^l": "Name:l", "^true": "Bool", "^word()": "Call:word", "^-1.0": "Unary:-"} {
		failsIn(t, "switch n { case "+x+": n = s }", api.ErrType, at)
		failsIn(t, "switch n { case 1, n, "+x+", undeclared: }", api.ErrType, at)
		failsIn(t, "switch n { case 1: case n, one(): default: case "+x+": case undeclared: }", api.ErrType, at)
	}
	for of, x := range map[string]string{"s": "^1", "b": "^0", "x": "^1"} {
		failsIn(t, "switch "+of+" { case "+x+": }", api.ErrType, "Int:"+x[1:])
	}
	failsIn(t, "switch n { case ^two(): }", api.ErrCount, "Call:two")
	failsIn(t, "switch n { case 1, ^none(): case 1: }", api.ErrCount, "Call:none")
	failsIn(t, "switch n { case ^undeclared, undeclared: }", api.ErrName, "Name:undeclared")
	failsIn(t, "switch n { case 1: n = ^undeclared; case s: }", api.ErrName, "Name:undeclared")
	failsIn(t, "switch n { case 1: n = ^undeclared; case 1: }", api.ErrName, "Name:undeclared")
	failsIn(t, "switch n { case 1: a := 1; n = a; case 2: n = ^a }", api.ErrName, "Name:a")
	isIn(t, "switch n { case 1: a := 1; n = a; case 2: a := true; b = a; default: var a string; s = a }")
	isIn(t, "a := 1; switch a { case a: a := s; s = a }")
}

// TestValuesOfCases: those that a number, a string, or a minus ahead of a number says.
func TestValuesOfCases(t *testing.T) {
	t.Parallel()
	for _, c := range []struct{ of, one, other, at string }{
		{"n", "1", "1", "Int:1"}, {"n", "0", "0", "Int:0"}, {"n", "0", "-0", "Unary:-"}, {"n", "-0", "0", "Int:0"}, {"n", "-0", "-0", "Unary:-"}, {"n", "-1", "-1", "Unary:-"},
		{"n", "9223372036854775807", "9223372036854775807", "Int:9223372036854775807"}, {"n", "-9223372036854775807", "-9223372036854775807", "Unary:-"},
		{"x", "1.5", "1.5", "Float:1.5"}, {"x", "1.0", "1.00", "Float:1.00"}, {"x", "0.0", "0.000", "Float:0.000"}, {"x", "-1.5", "-1.500", "Unary:-"}, {"x", "0.1", "0.1000000000000000000001", "Float:0.1000000000000000000001"},
		{"x", "9007199254740993.0", "9007199254740992.0", "Float:9007199254740992.0"}, {"x", "1.0000000000000001", "1.0", "Float:1.0"},
		{"s", "\"\"", "\"\"", "String"}, {"s", "\"a\"", "\"a\"", "String:a"}, {"s", "\"a\\n\"", "\"\\x61\\x0a\"", "String:a\n"}, {"s", "\"\\xff\"", "\"\\xff\"", "String:\xff"},
	} {
		for _, around := range []string{
			"switch @ { case #, $: undeclared() }",
			"switch @ { case #: case $: undeclared() }",
			"switch @ { default: case #: @ = @; case @, $, undeclared: }",
			"switch @ { case #: case @, @: case @: default: case @, $: default: }",
			"switch @ { case #: switch @ { case #: }; case $: }",
			"for { switch @ { case @, #, @: break; case $: } }",
		} {
			around = strings.NewReplacer("@", c.of, "#", c.one, "$", "^"+c.other).Replace(around)
			failsIn(t, around, api.ErrCase, c.at)
		}
		isIn(t, strings.NewReplacer("@", c.of, "#", c.one).Replace("switch @ { case #: switch @ { case #: switch @ { case @: case @, #: } } }; switch @ { case @, #, @: default: @ = # }"))
	}
	isIn(t, "switch n { case 0, 1, 2, -1, -2, n, n, 10, 9223372036854775807, -9223372036854775807, 9223372036854775806, 9007199254740993, 9007199254740992, one(), one(): case n: default: case n + 1, n + 1, l[0], l[0]: }")
	isIn(t, "switch x { case 0.0, 1.0, -1.0, 0.5, x, x, 5.0, -x, -x, float64(n), float64(n), 0.1, 0.10000000000000002: }")
	isIn(t, "switch s { case \"\", \"a\", \"A\", \"a \", \"a\\x00\", s, s, word(), word(), s + \"a\", s + \"a\": }")
	isIn(t, "switch b { case true, true, false, false: case true: case !true, !true, b, b: }")
	isIn(t, "switch n { case n: case 0: case l[0]: case -0 + n: }")
	isIn(t, "switch x { case x: case 0.0: }; switch s { case s: case \"\": }; switch n { case one(), 0: }; switch n { case -n, 0: }; switch b { case b: }")
	failsIn(t, "switch n { case n, 0, 1, one(), ^0: }", api.ErrCase, "Int:0")
	failsIn(t, "switch x { case x, 0.0: case -x, ^0.00: }", api.ErrCase, "Float:0.00")
	failsIn(t, "switch n { case 2, 3, 5, -2: case 7, ^-2: case 2: }", api.ErrCase, "Unary:-")
	failsIn(t, "switch n { case ^9223372036854775808: }", api.ErrConst, "Int:9223372036854775808")
	failsIn(t, "switch x { case 0.0, ^-0.0: }", api.ErrConst, "Unary:-")
}

// TestCallsThatSayAValue: P7.2 names no calls among those that say a value.
func TestCallsThatSayAValue(t *testing.T) {
	t.Parallel()
	for _, s := range []string{"switch n { case 1, len(\"a\"): }", "switch n { case len(\"a\"), len(\"b\"): }", "switch x { case 1.0, float64(1): }"} {
		if f, _ := asked(t, read(t, has+s+" }")); f != (api.Fault{}) {
			t.Errorf("%s: %v", s, f)
		}
	}
}

// TestManyCases: R1, as many as there may be.
func TestManyCases(t *testing.T) {
	t.Parallel()
	const many = 8000
	var cases []api.Node
	for i := range many {
		cases = append(cases, of(api.NodeCase, "", of(api.NodeInt, strconv.Itoa(i)), of(api.NodeBlock, "")))
	}
	file := func(cases []api.Node) api.Node {
		return file(of(api.NodeFunc, "f", of(api.NodeParams, "", of(api.NodeField, "n", typed("int"))), of(api.NodeResults, ""),
			of(api.NodeBlock, "", of(api.NodeSwitch, "", append([]api.Node{of(api.NodeName, "n")}, cases...)...))))
	}
	if f, _ := asked(t, file(cases)); f != (api.Fault{}) {
		t.Error(f)
	}
	cases[many-1].Kids[0].Text = "7000"
	cases[many-1].Kids[0].At = 5
	if f, at := asked(t, file(cases)); f != (api.Fault{Err: api.ErrCase, At: 5}) || spell(*at) != "Int:7000" {
		t.Error(f)
	}
}
