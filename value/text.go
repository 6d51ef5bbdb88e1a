package value

import (
	"strconv"
	"strings"

	"gristmill/api"
	"gristmill/scan"
)

// Text tells a value that lies within itself as one of no Kind: its own text would have no end.
func Text(v api.Value) (text string) {
	defer func() {
		if recover() != nil {
			text = "?"
		}
	}()
	var b strings.Builder
	enter := func(at int, v api.Value) bool {
		if at > 0 {
			b.WriteByte(' ')
		}
		b.WriteString(beginning(v))
		return ending(v) != ""
	}
	leave := func(v api.Value) { b.WriteString(ending(v)) }
	walk(v, enter, leave)
	return b.String()
}

// beginning is a value's text, up to where its Parts stand.
func beginning(v api.Value) string {
	switch v.Kind {
	case api.TypeInt:
		return strconv.FormatInt(v.Num, 10)
	case api.TypeBool:
		return strconv.FormatBool(v.Num == 1)
	case api.TypeString:
		return scan.Quote(v.Text)
	case api.TypeFloat:
		digits := strconv.FormatUint(v.Bits, 16)
		return "0x" + strings.Repeat("0", 16-len(digits)) + digits
	case api.TypeSlice:
		return "["
	case api.TypeStruct:
		return v.Name + "{"
	}
	return "?"
}

// ending is what stands behind the Parts of a Kind that tells them.
func ending(v api.Value) string {
	switch v.Kind {
	case api.TypeSlice:
		return "]"
	case api.TypeStruct:
		return "}"
	}
	return ""
}
