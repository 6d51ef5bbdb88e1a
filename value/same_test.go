package value_test

import (
	"testing"

	"gristmill/api"
	"gristmill/value"
)

// anew is a value in other memory, with room behind its lists in which something lies.
func anew(v api.Value) api.Value {
	out := v
	out.Text, out.Name = string([]byte(v.Text)), string([]byte(v.Name))
	out.Parts = nil
	for _, part := range v.Parts {
		out.Parts = append(out.Parts, anew(part))
	}
	out.Parts = append(out.Parts, room(), room())[:len(v.Parts)]
	return out
}

func room() api.Value { return api.Value{Kind: 77, Text: "room", Parts: []api.Value{{Num: 5}}} }

// hasRoom tells whether what lies behind the lists of what anew made is as it was.
func hasRoom(v api.Value) bool {
	for _, part := range v.Parts {
		if !hasRoom(part) {
			return false
		}
	}
	behind := v.Parts[len(v.Parts) : len(v.Parts)+2]
	return alike(behind[0], room()) && alike(behind[1], room())
}

func areSame(t *testing.T, a, b api.Value, want bool) {
	t.Helper()
	if value.Same(a, b) != want || value.Same(b, a) != want {
		t.Errorf("%s and %s: %v", spell(a), spell(b), !want)
	}
}

// P8.2.
func TestSameOfAnyTwo(t *testing.T) {
	all := values()
	for i, v := range all {
		areSame(t, v, v, true)
		areSame(t, v, anew(v), true)
		areSame(t, aSlice(v, anInt(1)), aSlice(anew(v), anInt(1)), true)
		for k := 0; k < i; k += 1 + i/100 {
			areSame(t, v, all[k], alike(v, all[k]))
			areSame(t, aSlice(v), aSlice(all[k]), alike(v, all[k]))
			areSame(t, aStruct("a", anInt(1), v), aStruct("a", anInt(1), all[k]), alike(v, all[k]))
		}
	}
}

// TestSameAsksEachField of each Part, however deep it lies.
func TestSameAsksEachField(t *testing.T) {
	one := api.Value{Kind: 9, Num: 1, Text: "t", Bits: 2, Name: "n", Parts: []api.Value{{}, anInt(1)}}
	others := []api.Value{one, one, one, one, one, one, one, one, one}
	others[0].Kind++
	others[1].Num++
	others[2].Text = "T"
	others[3].Bits++
	others[4].Name = "t"
	others[5].Parts = nil
	others[6].Parts = []api.Value{{}}
	others[7].Parts = []api.Value{{}, anInt(2)}
	others[8].Parts = []api.Value{{}, anInt(1), {}}
	for _, other := range others {
		a, b := one, other
		for range 5 {
			areSame(t, a, b, false)
			areSame(t, a, anew(a), true)
			areSame(t, aSlice(a, b), aSlice(b, a), false)
			areSame(t, aSlice(a, b), aSlice(a, b), true)
			areSame(t, aSlice(a, a, a), aSlice(a, a, b), false)
			areSame(t, aSlice(a, a, a), aSlice(b, a, a), false)
			a, b = aStruct("s", one, a, one), aStruct("s", one, b, one)
		}
	}
}

func TestSameAsksBits(t *testing.T) {
	areSame(t, aFloat(0), aFloat(1<<63), false)
	areSame(t, aFloat(0x7ff8000000000001), aFloat(0x7ff8000000000001), true)
	areSame(t, aFloat(0x7ff8000000000001), aFloat(0x7ff8000000000000), false)
	areSame(t, aFloat(0x7ff8000000000000), aFloat(0xfff8000000000000), false)
	areSame(t, aSlice(aFloat(0x7ff8000000000000)), aSlice(aFloat(0x7ff8000000000000)), true)
	areSame(t, aFloat(0), anInt(0), false)
	areSame(t, aBool(1), anInt(1), false)
	areSame(t, aStruct("a"), aStruct("b"), false)
	areSame(t, aStruct("a"), aSlice(), false)
	areSame(t, aString("a"), aString("a\x00"), false)
}

// TestListsWithoutElements and nil ones are one (R6).
func TestListsWithoutElements(t *testing.T) {
	for kind := range 8 {
		a, b := api.Value{Kind: api.TypeKind(kind)}, api.Value{Kind: api.TypeKind(kind), Parts: []api.Value{}}
		areSame(t, a, b, true)
		areSame(t, aSlice(a, b), aSlice(b, a), true)
		areSame(t, b, api.Value{Kind: api.TypeKind(kind), Parts: room().Parts[:0]}, true)
		if got := value.Text(a); got != value.Text(b) {
			t.Errorf("%s, %s", got, value.Text(b))
		}
		if !alike(value.Copy(b), a) {
			t.Errorf("copied: %s", spell(value.Copy(b)))
		}
	}
}

// TestPartsThatShareMemory are told one by one.
func TestPartsThatShareMemory(t *testing.T) {
	row := []api.Value{anInt(1), anInt(2), anInt(1), anInt(2)}
	a := aSlice(aSlice(row[:2]...), aSlice(row[2:]...), aSlice(row[:3]...), aSlice(row[:2]...))
	b := aSlice(aSlice(row[2:]...), aSlice(row[:2]...), aSlice(row[:3]...), aSlice(row[2:4]...))
	areSame(t, a, b, true)
	areSame(t, a, aSlice(aSlice(row[:2]...), aSlice(row[2:]...), aSlice(row[1:]...), aSlice(row[:2]...)), false)
	areSame(t, a, aSlice(aSlice(row[:2]...), aSlice(row[2:]...), aSlice(row[:3]...), aSlice(row[1:3]...)), false)
	areSame(t, a, aSlice(aSlice(row[:2]...), aSlice(row[2:]...), aSlice(row[:2]...), aSlice(row[:2]...)), false)
	areSame(t, aSlice(aSlice(row...), aSlice(row[:1]...)), aSlice(aSlice(row...), aSlice(row[1:2]...)), false)
	if got := value.Text(a); got != "[[1 2] [1 2] [1 2 1] [1 2]]" {
		t.Error(got)
	}
	areSame(t, value.Copy(a), a, true)
	isOne(t, given(t), a, slice(slice(whole())))
}
