package eval_test

import (
	"testing"

	"gristmill/api"
	"gristmill/check"
	"gristmill/eval"
	"gristmill/show"
	"gristmill/value"
)

// TestMadeUpPrograms holds what programs tell, and the steps that they take, against the document's words (book_test.go), with fuel enough and with less.
func TestMadeUpPrograms(t *testing.T) {
	t.Parallel()
	const most = 6000
	told := map[api.Errno]int{}
	for seed := range int64(1200) {
		m := newMaker(seed)
		n := m.file()
		if check.File(n) != (api.Fault{}) {
			continue
		}
		for _, f := range m.functions {
			var args []api.Value
			for _, t := range f.of {
				args = append(args, m.value(t, 4))
			}
			o := isByTheBook(t, n, f.name, most, args)
			told[o.Err]++
			for _, fuel := range []int{o.Steps, o.Steps - 1, m.chance.Intn(o.Steps + 1), m.chance.Intn(o.Steps + 1)} {
				less := isByTheBook(t, n, f.name, fuel, args)
				if fuel >= 0 && fuel < o.Steps && (less.Err != api.ErrFuel || less.Steps != fuel) || fuel == o.Steps && !areAlike(less, o) {
					t.Errorf("with fuel %d %s, with %d %s, %d steps", fuel, spell(less), most, spell(o), o.Steps)
				}
			}
			if _, results, _ := check.Signature(n, f.name); o.Err == api.OK {
				areOf(t, n, o.Values, results)
			}
			if t.Failed() {
				s, _ := show.File(n)
				t.Fatalf("seed %d: %s of\n%s", seed, f.name, s)
			}
		}
	}
	t.Log(told)
	for _, e := range []api.Errno{api.OK, api.ErrIndex, api.ErrDivide, api.ErrPanic, api.ErrFuel} {
		if told[e] < 20 {
			t.Errorf("%d was told %d times", e, told[e])
		}
	}
}

func isByTheBook(t *testing.T, n api.Node, fn string, fuel int, args []api.Value) api.Outcome {
	t.Helper()
	o, b := eval.Run(n, fn, fuel, args...), bookRun(n, fn, fuel, args...)
	if !areAlike(o, b) {
		t.Errorf("with fuel %d %s, %d steps, by the book %s, %d", fuel, spell(o), o.Steps, spell(b), b.Steps)
	}
	return o
}

// areOf asks for results' types (P9.4).
func areOf(t *testing.T, n api.Node, values []api.Value, types []api.Type) {
	t.Helper()
	if len(values) != len(types) {
		t.Errorf("%d values, not %d", len(values), len(types))
	}
	for i, v := range values {
		if !value.Is(n, v, types[i]) {
			t.Errorf("%s is none of %s", value.Text(v), spellType(types[i]))
		}
	}
}
