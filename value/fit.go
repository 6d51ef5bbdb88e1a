package value

import (
	"strings"

	"gristmill/api"
	"gristmill/num"
)

// zero makes the zero value of a type that is known. A struct that has itself comes to an end, too: it has more values than may be.
func (l *look) zero(t api.Type) api.Value {
	l.made++
	must(l.made <= api.MaxNodes)
	v := api.Value{Kind: t.Kind, Name: strings.Clone(t.Name)}
	if t.Kind == api.TypeStruct {
		for _, field := range l.parts(t.Name) {
			v.Parts = append(v.Parts, l.zero(field))
		}
	}
	return v
}

// fit holds a value against a type that is known, and what lies within it against what that asks there.
func (l *look) fit(v api.Value, t api.Type) {
	may := mayHave()
	rows := [][]api.Type{{t}}
	enter := func(at int, v api.Value) bool {
		types := rows[len(rows)-1]
		t := types[min(at, len(types)-1)] // a slice has one type for all its Parts
		must(v.Kind == t.Kind && v.Name == t.Name && may[t.Kind](v))
		rows = append(rows, l.within(t, len(v.Parts)))
		return true
	}
	leave := func(api.Value) { rows = rows[:len(rows)-1] }
	walk(v, enter, leave)
}

// within tells the types of so many Parts: one for each, or one for all.
func (l *look) within(t api.Type, many int) []api.Type {
	if t.Kind != api.TypeStruct {
		return t.Elem
	}
	types := l.parts(t.Name)
	must(len(types) == many)
	return types
}

// mayHave tells of each Kind what a value of it may have.
func mayHave() map[api.TypeKind]func(v api.Value) bool {
	number, bits := only("Num"), only("Bits")
	return map[api.TypeKind]func(v api.Value) bool{
		api.TypeInt:    number,
		api.TypeBool:   func(v api.Value) bool { return number(v) && (v.Num == 0 || v.Num == 1) },
		api.TypeString: only("Text"),
		api.TypeFloat:  func(v api.Value) bool { return bits(v) && v.Bits == num.Plain(v.Bits) },
		api.TypeSlice:  only("Parts"),
		api.TypeStruct: only("Name", "Parts"),
	}
}

// only is a question to a value: whether all but its Kind and what is named is zero.
func only(names ...string) func(v api.Value) bool {
	return func(v api.Value) bool {
		for _, name := range names {
			switch name {
			case "Num":
				v.Num = 0
			case "Text":
				v.Text = ""
			case "Bits":
				v.Bits = 0
			case "Name":
				v.Name = ""
			case "Parts":
				v.Parts = nil
			}
		}
		return areAlike(v, api.Value{Kind: v.Kind})
	}
}
