package value_test

import (
	"testing"
	"unsafe"

	"gristmill/api"
	"gristmill/value"
)

// spoil changes all of a value's memory, and what lies behind its lists.
func spoil(v api.Value) {
	all := v.Parts[:cap(v.Parts)]
	for i := range all {
		spoil(all[i])
		all[i] = api.Value{Kind: 99, Num: 5, Text: "spoilt", Name: "spoilt", Parts: []api.Value{{}}}
	}
}

// span is a piece of memory.
type span struct{ from, to uintptr }

func spanOf[T any](first *T, many int) span {
	from := uintptr(unsafe.Pointer(first))
	return span{from, from + uintptr(many)*unsafe.Sizeof(*first)}
}

// lists are where a value's lists lie, with the room behind them.
func lists(v api.Value) []span {
	var out []span
	if cap(v.Parts) > 0 {
		out = append(out, spanOf(unsafe.SliceData(v.Parts), cap(v.Parts)))
	}
	for _, part := range v.Parts {
		out = append(out, lists(part)...)
	}
	return out
}

// texts are where a value's texts lie.
func texts(v api.Value) []span {
	var out []span
	for _, s := range []string{v.Text, v.Name} {
		if s != "" {
			out = append(out, spanOf(unsafe.StringData(s), len(s)))
		}
	}
	for _, part := range v.Parts {
		out = append(out, texts(part)...)
	}
	return out
}

func meets(a, b span) bool { return a.from < b.to && b.from < a.to }

// areApart asks that no two lists share memory, and nothing of the answer any with what was given.
func areApart(t *testing.T, answer api.Value, given ...span) {
	t.Helper()
	all := lists(answer)
	for i, a := range all {
		for _, b := range all[:i] {
			if meets(a, b) {
				t.Fatalf("%s: two lists share memory", spell(answer))
			}
		}
	}
	for _, a := range append(all, texts(answer)...) {
		for _, b := range given {
			if meets(a, b) {
				t.Fatalf("%s shares memory with what was given", spell(answer))
			}
		}
	}
}

// P8.2, R3.
func TestCopyIsTheValue(t *testing.T) {
	for _, v := range values() {
		for _, v := range []api.Value{v, aSlice(v), aStruct("a", v, anInt(1), v), aSlice(aSlice(v, v), aSlice(), v)} {
			given := anew(v)
			c := value.Copy(given)
			if !alike(c, v) || !alike(given, v) || !hasRoom(given) {
				t.Fatalf("%s: %s", spell(v), spell(c))
			}
			areApart(t, c, append(lists(given), texts(given)...)...)
			spoil(c)
			if !alike(given, v) || !hasRoom(given) {
				t.Fatalf("%s was changed with its copy", spell(v))
			}
			c = value.Copy(given)
			spoil(given)
			if !alike(c, v) {
				t.Fatalf("%s: the copy was changed with what it is of", spell(v))
			}
		}
	}
}

// TestCopyOfPartsThatShareMemory has memory of its own for each of them.
func TestCopyOfPartsThatShareMemory(t *testing.T) {
	row := []api.Value{anInt(1), aSlice(anInt(2)), aSlice(anInt(3), anInt(4))}
	v := aSlice(aSlice(row...), aSlice(row...), aSlice(row[1:]...), aSlice(row[:2]...), aStruct("a", row...))
	v = aStruct("b", v, v, aSlice(v, v))
	c := value.Copy(v)
	if !alike(c, v) {
		t.Fatal(spell(c))
	}
	areApart(t, c, append(lists(v), texts(v)...)...)
}
