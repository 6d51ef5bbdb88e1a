package expand

import (
	"strings"

	"gristmill/api"
)

// most is how many bytes a text may have. As Args may lie in a word in many places, a few of them may say more than any memory holds: R7 has no promise of that, but the call must end.
const most = 1<<31 - 1

// Name tells nothing of a word whose text has no end, or too many bytes: spelling it out is left by a panic then.
func Name(w api.Word) (name string) {
	defer func() { _ = recover() }()
	long := 0
	spell(w, func(s string) {
		long += len(s)
		if long > most {
			panic(api.ErrLong)
		}
	})
	var b strings.Builder
	b.Grow(long)
	spell(w, func(s string) { b.WriteString(s) })
	return b.String()
}

func spell(w api.Word, put func(s string)) {
	walk{
		enter: func(x *api.Word, at int) {
			if at > 0 {
				put(",")
			}
			put(x.Name)
			if len(x.Args) > 0 {
				put("(")
			}
		},
		leave: func(x *api.Word) {
			if len(x.Args) > 0 {
				put(")")
			}
		},
		endless: func(*api.Word) { panic(api.ErrLong) },
	}.through(&w)
}
