package check_test

import (
	"strings"
	"testing"

	"gristmill/api"
)

// P7.3.
func TestLiterals(t *testing.T) {
	t.Parallel()
	for _, s := range []string{"0", "1", "10", "9223372036854775807", "4611686018427387904"} {
		isOf(t, s, "int")
	}
	for _, s := range []string{"9223372036854775808", "9223372036854775809", "10000000000000000000", "18446744073709551615", "18446744073709551616", strings.Repeat("9", 40)} {
		failsAsX(t, "^"+s, api.ErrConst, "Int:"+s)
		failsAsX(t, "-^"+s, api.ErrConst, "Int:"+s)
	}
	for _, s := range []string{"0.0", "1.5", "0.1", "9223372036854775808.0", strings.Repeat("9", 39) + ".0", "0." + strings.Repeat("0", 38) + "1"} {
		isOf(t, s, "float64")
	}
	for _, s := range []string{`""`, `"a"`, `"\x00\xff"`} {
		isOf(t, s, "string")
	}
	isOf(t, "true", "bool")
	isOf(t, "false", "bool")
}

func TestNames(t *testing.T) {
	t.Parallel()
	for x, of := range map[string]string{"n": "int", "s": "string", "b": "bool", "x": "float64", "l": "[]int", "w": "[]string", "p": "pair", "q": "tree", "ts": "[]tree", "ls": "[][]int"} {
		isOf(t, x, of)
	}
	for _, name := range strings.Fields("undeclared two one none pair tree f int bool string float64 len append panic N nil") {
		failsAsX(t, "^"+name, api.ErrName, "Name:"+name)
	}
	isIn(t, "a := 1; { b = a == 1; a := s; s = a; { a := x; x = a }; s = a }; n = a")
}

func TestUnaries(t *testing.T) {
	t.Parallel()
	for x, of := range map[string]string{"-1": "int", "-0": "int", "-n": "int", "- -n": "int", "- - -n": "int", "-one()": "int", "-len(s)": "int", "-len(l)": "int", "-(n + 1)": "int", "-l[0]": "int", "-p.a": "int", "-9223372036854775807": "int",
		"-1.5": "float64", "-x": "float64", "-0.5": "float64", "-float64(n)": "float64", "- -x": "float64", "-(x * 2.0)": "float64",
		"!b": "bool", "!true": "bool", "!false": "bool", "!!true": "bool", "!!b": "bool", "!(n == 1)": "bool", "!!!false": "bool"} {
		isOf(t, x, of)
	}
	for _, x := range strings.Fields(`s b l p ts "a" true word() !b s+s []int{} pair{}`) {
		failsAsX(t, "^-("+x+")", api.ErrType, "Unary:-")
	}
	for _, x := range strings.Fields(`n s x l p 1 1.5 "a" one() -n -1 n+1 []bool{} pair{}`) {
		failsAsX(t, "^!("+x+")", api.ErrType, "Unary:!")
	}
	for _, marked := range []string{"-^two()", "-^none()", "!^two()", "!^none()", "-^panic(s)", "- -^two()", "!!^two()"} {
		failsAsX(t, marked, api.ErrCount, "Call:"+marked[strings.Index(marked, "^")+1:strings.Index(marked, "(")])
	}
	failsAsX(t, "-^undeclared", api.ErrName, "Name:undeclared")
	failsAsX(t, "!^undeclared", api.ErrName, "Name:undeclared")
	failsAsX(t, "-^!n", api.ErrType, "Unary:!")
	failsAsX(t, "!^-s", api.ErrType, "Unary:-")
}

// constants are those by the document's words, and their types.
var constants = map[string]string{
	"1": "int", "0": "int", "-1": "int", "-0": "int", "1.5": "float64", "0.0": "float64", "-1.5": "float64", `"a"`: "string", `""`: "string", "true": "bool", "false": "bool", "!true": "bool", "!!false": "bool",
	`len("a")`: "int", `len("")`: "int", "float64(1)": "float64", "float64(-1)": "float64", "float64(0)": "float64", `float64(len("a"))`: "float64", `float64(len(""))`: "float64",
}

// variables are expressions that are no constants, some nearly.
var variables = map[string]string{
	"n": "int", "-n": "int", "len(s)": "int", "len(l)": "int", "len([]int{1})": "int", `len("a" + s)`: "int", `len(word())`: "int", "one()": "int", "n + 1": "int", "-(n + 1)": "int", "[]int{1}[0]": "int", "pair{a: 1}.a": "int", `len([]string{"a"})`: "int",
	"x": "float64", "-x": "float64", "float64(n)": "float64", "float64(len(s))": "float64", "float64(-n)": "float64", "-float64(n)": "float64", "x + 1.0": "float64",
	"s": "string", "word()": "string", `s + "a"`: "string", `pair{b: "a"}.b`: "string",
	"b": "bool", "!b": "bool", "n == 1": "bool", "!(n == 1)": "bool", "b && true": "bool", "!!b": "bool",
}

func TestConstantsBehindAMinus(t *testing.T) {
	t.Parallel()
	for x, of := range constants {
		switch {
		case of != "int" && of != "float64":
			failsAsX(t, "^-("+x+")", api.ErrType, "Unary:-")
		case x == "0" || x == "1" || x == "1.5":
			isOf(t, "-("+x+")", of)
		default:
			failsAsX(t, "^-("+x+")", api.ErrConst, "Unary:-")
		}
		if of == "bool" {
			isOf(t, "!("+x+")", "bool")
		} else {
			failsAsX(t, "^!("+x+")", api.ErrType, "Unary:!")
		}
	}
	for x, of := range variables {
		if of == "int" || of == "float64" {
			isOf(t, "-("+x+")", of)
		}
		if of == "bool" {
			isOf(t, "!("+x+")", of)
		}
	}
	for _, x := range []string{"0.0", "0.00", "0." + strings.Repeat("0", 39)} {
		failsAsX(t, "^-"+x, api.ErrConst, "Unary:-")
	}
	isOf(t, "-0."+strings.Repeat("0", 38)+"1", "float64")
}

// operators are those between two, the types that they may stand between, and the type of what they come to: of "" the same.
var operators = []struct{ signs, of, to string }{
	{"== !=", "int bool string float64", "bool"},
	{"< <= > >=", "int string float64", "bool"},
	{"+", "int string float64", ""},
	{"- * /", "int float64", ""},
	{"%", "int", ""},
	{"&& ||", "bool", "bool"},
}

// ofTypes are two expressions of each type, the first one no constant, the second one a constant if there are any, none nought.
var ofTypes = map[string][2]string{"int": {"n", "1"}, "bool": {"b", "true"}, "string": {"s", `"a"`}, "float64": {"x", "1.5"}, "[]int": {"l", "l"}, "pair": {"p", "p"}, "tree": {"q", "q"}, "[]tree": {"ts", "ts"}, "[]string": {"w", "w"}}

func TestBinaries(t *testing.T) {
	t.Parallel()
	for _, o := range operators {
		for _, sign := range strings.Fields(o.signs) {
			for one, xs := range ofTypes {
				for other, ys := range ofTypes {
					is := strings.Contains(" "+o.of+" ", " "+one+" ") && one == other
					to := o.to
					if to == "" {
						to = one
					}
					for _, two := range [][2]string{{xs[0], ys[0]}, {xs[1], ys[0]}, {xs[0], ys[1]}} {
						if x := two[0] + " " + sign + " " + two[1]; is {
							isOf(t, x, to)
						} else {
							failsIn(t, "z := ^"+x+"; n = true", api.ErrType, "Binary:"+sign)
						}
					}
				}
			}
		}
	}
}

// TestFaultsOfBinaries: the left one first, then the right one, then what they are together.
func TestFaultsOfBinaries(t *testing.T) {
	t.Parallel()
	for _, o := range operators {
		for _, sign := range strings.Fields(o.signs) {
			of := strings.Fields(o.of)[0]
			x, c := ofTypes[of][0], ofTypes[of][1]
			failsAsX(t, "^undeclared "+sign+" two()", api.ErrName, "Name:undeclared")
			failsAsX(t, "^two() "+sign+" undeclared", api.ErrCount, "Call:two")
			failsAsX(t, "^none() "+sign+" "+x, api.ErrCount, "Call:none")
			failsAsX(t, x+" "+sign+" ^undeclared", api.ErrName, "Name:undeclared")
			failsAsX(t, "l "+sign+" ^undeclared", api.ErrName, "Name:undeclared")
			failsAsX(t, c+" "+sign+" ^two()", api.ErrCount, "Call:two")
			failsAsX(t, x+" "+sign+" ^none()", api.ErrCount, "Call:none")
			failsAsX(t, "^"+c+" "+sign+" "+c, api.ErrConst, "Binary:"+sign)
		}
	}
	failsAsX(t, "^1 + 1.5", api.ErrType, "Binary:+")
	failsAsX(t, `^1 / "a"`, api.ErrType, "Binary:/")
	failsAsX(t, "^s / 0", api.ErrType, "Binary:/")
	failsAsX(t, "^x % 0.0", api.ErrType, "Binary:%")
	failsAsX(t, "^1 == true", api.ErrType, "Binary:==")
	failsAsX(t, "n + ^(1 + 2)", api.ErrConst, "Binary:+")
	failsAsX(t, "n + (n + ^(1 / 0))", api.ErrConst, "Binary:/")
	failsAsX(t, "n * ^(n + s)", api.ErrType, "Binary:+")
}

func TestConstantsBetween(t *testing.T) {
	t.Parallel()
	for x, of := range constants {
		for y, other := range constants {
			if of != other {
				continue
			}
			for _, o := range operators {
				for _, sign := range strings.Fields(o.signs) {
					if strings.Contains(" "+o.of+" ", " "+of+" ") {
						failsIn(t, "z := ^("+x+") "+sign+" "+y+"; n = true", api.ErrConst, "Binary:"+sign)
					}
				}
			}
		}
	}
	for x, of := range variables {
		for y, other := range constants {
			if of != other {
				continue
			}
			for _, sign := range []string{"==", "!="} {
				isIn(t, "b = ("+x+") "+sign+" ("+y+"); b = ("+y+") "+sign+" ("+x+"); b = ("+x+") "+sign+" ("+x+")")
			}
		}
	}
}

func TestDivisionsByNought(t *testing.T) {
	t.Parallel()
	noughts := []string{"0", "-0", `len("")`}
	for _, sign := range []string{"/", "%"} {
		for _, x := range []string{"n", "one()", "(n + 1)", "l[0]", "-n", "1", "0", "-1"} {
			for _, nought := range noughts {
				failsAsX(t, "^"+x+" "+sign+" "+nought, api.ErrConst, "Binary:"+sign)
				failsAsX(t, "^"+x+" "+sign+" ("+nought+")", api.ErrConst, "Binary:"+sign)
			}
		}
		for _, y := range []string{"1", "-1", `len("a")`, `len("\x00")`, "n", "(n - n)", "-n", "len(s)", "len([]int{})", "one()", "10", `len("" + s)`, "len(w[0])", "9223372036854775807"} {
			isOf(t, "n "+sign+" "+y, "int")
		}
		for _, nought := range noughts {
			isOf(t, nought+" "+sign+" n", "int")
		}
	}
	for _, nought := range noughts {
		for _, sign := range []string{"+", "-", "*"} {
			isOf(t, "n "+sign+" "+nought, "int")
		}
		isOf(t, "n == "+nought, "bool")
		isOf(t, "n < "+nought, "bool")
	}
	for _, y := range []string{"0.0", "0.00", "float64(0)", `float64(len(""))`, "(x - x)"} {
		isOf(t, "x / "+y, "float64")
	}
	failsAsX(t, "^1.5 / 0.0", api.ErrConst, "Binary:/")
	failsAsX(t, "x / ^-0.0", api.ErrConst, "Unary:-")
}

func TestElements(t *testing.T) {
	t.Parallel()
	for x, of := range map[string]string{"l[0]": "int", "l[n]": "int", "ls[n]": "[]int", "ls[n][n]": "int", "ts[0]": "tree", "ts[0].kids[1].of": "pair", "[]string{}[0]": "string", "append(w, s)[one()]": "string", "[][]pair{}[0][1]": "pair",
		"l[:0]": "[]int", "l[:n]": "[]int", "ls[:n]": "[][]int", "ls[:n][n]": "[]int", "ls[n][:n]": "[]int", "ts[:len(ts)]": "[]tree", "[]string{}[:1]": "[]string", "q.kids[:2]": "[]tree", "l[:n][:n]": "[]int",
		"l[-0]": "int", "l[:-0]": "[]int", "l[-n]": "int", "l[- -n]": "int", "l[n - 1]": "int", "l[l[0]]": "int", `l[len("a")]`: "int", `l[len("")]`: "int", "l[9223372036854775807]": "int", "l[:9223372036854775807]": "[]int", "l[-one()]": "int", "l[-(n + 1)]": "int"} {
		isOf(t, x, of)
	}
	for _, between := range []string{"[", "[:"} {
		at := map[string]string{"[": "Index", "[:": "UpTo"}[between]
		for _, x := range []string{"n", "s", "b", "x", "p", "q", "q.of", `"abc"`, "one()", "word()", "l[0]", "pair{}", "(n + 1)"} {
			failsAsX(t, "^"+x+between+"0]", api.ErrType, at)
			failsAsX(t, "^"+x+between+"s]", api.ErrType, at)
			failsAsX(t, "^"+x+between+"-1]", api.ErrType, at)
		}
		for x, at := range map[string]string{"s": "Name:s", "b": "Name:b", "1.5": "Float:1.5", "l": "Name:l", "true": "Bool", "word()": "Call:word", "-1.5": "Unary:-", "-x": "Unary:-", "ls[0]": "Index", "pair{}": "Make:pair"} {
			failsAsX(t, "ls"+between+"^"+x+"]", api.ErrType, at)
		}
		for _, x := range []string{"-1", "-10", "-9223372036854775807"} {
			failsAsX(t, "l"+between+"^"+x+"]", api.ErrConst, "Unary:-")
		}
		failsAsX(t, "l"+between+"^(-1)]", api.ErrConst, "Unary:-")
		failsAsX(t, "^undeclared"+between+"undeclared]", api.ErrName, "Name:undeclared")
		failsAsX(t, "^two()"+between+"undeclared]", api.ErrCount, "Call:two")
		failsAsX(t, "^none()"+between+"0]", api.ErrCount, "Call:none")
		failsAsX(t, "l"+between+"^undeclared]", api.ErrName, "Name:undeclared")
		failsAsX(t, "l"+between+"^two()]", api.ErrCount, "Call:two")
		failsAsX(t, "l"+between+"^none()]", api.ErrCount, "Call:none")
		failsAsX(t, "l"+between+"-^9223372036854775808]", api.ErrConst, "Int:9223372036854775808")
	}
}

func TestParts(t *testing.T) {
	t.Parallel()
	for x, of := range map[string]string{"p.a": "int", "p.b": "string", "q.of": "pair", "q.of.a": "int", "q.kids": "[]tree", "q.float64": "float64", "q.kids[0].kids": "[]tree", "ts[n].of.b": "string", "pair{}.b": "string", "tree{}.of.a": "int"} {
		isOf(t, x, of)
	}
	for _, x := range []string{"n", "s", "b", "x", "l", "ts", "q.kids", "p.a", "one()", "1", "true", "ts[:1]", "[]pair{}", "(n + 1)"} {
		if x == "1" {
			x = "(1)"
		}
		failsAsX(t, "^"+x+".a", api.ErrType, "Part:a")
	}
	for _, x := range []string{"p.c", "p.kids", "p.A", "q.a", "q.pair", "q.of.of", "ts[0].float", "pair{}.c", "p.pair"} {
		failsAsX(t, "^"+x, api.ErrName, "Part:"+x[strings.LastIndex(x, ".")+1:])
	}
	failsAsX(t, "^undeclared.a", api.ErrName, "Name:undeclared")
	failsAsX(t, "^two().a", api.ErrCount, "Call:two")
	failsAsX(t, "^none().c", api.ErrCount, "Call:none")
	failsAsX(t, "^pairs().c", api.ErrCount, "Call:pairs")
}
