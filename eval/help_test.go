package eval_test

import (
	"os"
	"runtime/debug"
	"slices"
	"strconv"
	"strings"
	"testing"

	"gristmill/api"
	"gristmill/check"
	"gristmill/eval"
	"gristmill/parse"
	"gristmill/value"
)

// TestMain lets more memory lie about: programs run by the thousand.
func TestMain(m *testing.M) {
	debug.SetGCPercent(400)
	os.Exit(m.Run())
}

// given are structs and functions that bodies may name.
const given = `package p
type pair struct { a int; b []int }
type tree struct { of int; kids []tree }
type all struct { i int; b bool; s string; f float64; l []int; p pair }
type none struct { }
func one(n int) int { return n }
func two(n int) (int, int) { return n + 1, n + 2 }
func fail(s string) int { panic(s) }
func isSo(b bool, s string) bool { if b { return true }; if s == "" { return false }; panic(s) }
func nothing() { }
func word(n int) string { if n < 1 { return "" }; return "a" + word(n - 1) }
func row(n int) []int { s := []int{}; for len(s) < n { s = append(s, len(s)) }; return s }
`

// plenty is fuel enough for what ends.
const plenty = 1 << 24

func anInt(n int64) api.Value      { return api.Value{Kind: api.TypeInt, Num: n} }
func aBool(n int64) api.Value      { return api.Value{Kind: api.TypeBool, Num: n} }
func aString(s string) api.Value   { return api.Value{Kind: api.TypeString, Text: s} }
func aFloat(bits uint64) api.Value { return api.Value{Kind: api.TypeFloat, Bits: bits} }

func aSlice(parts ...api.Value) api.Value {
	return api.Value{Kind: api.TypeSlice, Parts: parts}
}

func aStruct(name string, parts ...api.Value) api.Value {
	return api.Value{Kind: api.TypeStruct, Name: name, Parts: parts}
}

func ints(n ...int64) api.Value {
	v := aSlice()
	for _, n := range n {
		v.Parts = append(v.Parts, anInt(n))
	}
	return v
}

// read is a source's tree, which has no fault.
func read(t testing.TB, s string) api.Node {
	t.Helper()
	n, f := parse.File(s)
	if f == (api.Fault{}) {
		f = check.File(n)
	}
	if f != (api.Fault{}) {
		t.Fatalf("%s: %v at %.40q", short(s), f, s[min(f.At, len(s)):])
	}
	return n
}

func short(s string) string {
	s = strings.TrimPrefix(s, given)
	if len(s) > 700 {
		return strconv.Quote(s[:700]) + ".."
	}
	return strconv.Quote(s)
}

// spell is what an outcome tells, but its steps: the values' texts, or the fault.
func spell(o api.Outcome) string {
	names := map[api.Errno]string{
		api.ErrShape: "ErrShape", api.ErrNone: "ErrNone", api.ErrCount: "ErrCount", api.ErrArg: "ErrArg", api.ErrFuel: "ErrFuel",
		api.ErrStack: "ErrStack", api.ErrFull: "ErrFull", api.ErrIndex: "ErrIndex", api.ErrDivide: "ErrDivide", api.ErrPanic: "ErrPanic",
	}
	var told []string
	if o.Err != api.OK {
		told = append(told, names[o.Err])
	}
	if o.Err == api.ErrPanic || o.Text != "" {
		told = append(told, o.Text)
	}
	for _, v := range o.Values {
		told = append(told, value.Text(v))
	}
	s := strings.Join(told, " ")
	if len(s) > 700 {
		return s[:700] + ".. " + strconv.Itoa(len(s))
	}
	return s
}

func alike(a, b api.Value) bool { return value.Same(a, b) }

// areAlike holds outcomes against each other all through.
func areAlike(a, b api.Outcome) bool {
	return a.Err == b.Err && a.Text == b.Text && a.Steps == b.Steps && slices.EqualFunc(a.Values, b.Values, alike)
}

// ends asks what a function f tells, with fuel enough.
func ends(t *testing.T, file api.Node, want string, args ...api.Value) api.Outcome {
	t.Helper()
	o := eval.Run(file, "f", plenty, args...)
	if spell(o) != want {
		t.Errorf("told is %s, not %s", spell(o), want)
	}
	return o
}

// tells asks what the statements of a function of given results tell.
func tells(t *testing.T, results, statements, want string, args ...api.Value) api.Outcome {
	t.Helper()
	s := source(results, statements, args)
	o := ends(t, read(t, s), want, args...)
	if t.Failed() {
		t.Fatal(short(s))
	}
	return o
}

// source is a program with a function f, to be given such arguments.
func source(results, statements string, args []api.Value) string {
	if results != "" {
		results = "(" + results + ") "
	}
	return given + "func f(" + params(args) + ") " + results + "{ " + statements + "\n}"
}

// params are a, b, c and so on, for arguments of plain kinds, and slices of whole numbers.
func params(args []api.Value) string {
	types := map[api.TypeKind]string{api.TypeInt: "int", api.TypeBool: "bool", api.TypeString: "string", api.TypeFloat: "float64", api.TypeSlice: "[]int"}
	var out []string
	for i, v := range args {
		of := types[v.Kind]
		if v.Kind == api.TypeStruct {
			of = v.Name
		}
		out = append(out, string(rune('a'+i))+" "+of)
	}
	return strings.Join(out, ", ")
}

// costs asks for the steps, too, and for P9.4: with less fuel it is ErrFuel, with more of it the same.
func costs(t *testing.T, results, statements, want string, steps int, args ...api.Value) {
	t.Helper()
	s := source(results, statements, args)
	takes(t, read(t, s), want, steps, args...)
	if t.Failed() {
		t.Fatal(short(s))
	}
}

func takes(t *testing.T, file api.Node, want string, steps int, args ...api.Value) {
	t.Helper()
	o := ends(t, file, want, args...)
	if b := bookRun(file, "f", plenty, args...); !areAlike(o, b) {
		t.Errorf("%s, %d steps, but by the book %s, %d", spell(o), o.Steps, spell(b), b.Steps)
	}
	if o.Steps != steps {
		t.Errorf("%d steps, not %d", o.Steps, steps)
	}
	for _, fuel := range []int{o.Steps, o.Steps + 1, o.Steps + 2, 2*o.Steps + 7, 1<<63 - 1} {
		if more := eval.Run(file, "f", fuel, args...); !areAlike(more, o) {
			t.Errorf("with fuel %d %s, %d steps, not %s, %d", fuel, spell(more), more.Steps, spell(o), o.Steps)
		}
	}
	for fuel := range o.Steps {
		if fuel > 60 && fuel < o.Steps-60 && o.Steps > 300 {
			continue
		}
		if less := eval.Run(file, "f", fuel, args...); !areAlike(less, api.Outcome{Err: api.ErrFuel, Steps: fuel}) {
			t.Errorf("with fuel %d %s, %d steps, not ErrFuel", fuel, spell(less), less.Steps)
		}
	}
}

// isRight tells whether a source's program may be.
func isRight(s string) bool {
	n, f := parse.File(s)
	return f == (api.Fault{}) && check.File(n) == (api.Fault{})
}
