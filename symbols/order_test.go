package symbols_test

import (
	"strings"
	"testing"

	"gristmill/api"
)

// part is what puts a fault into a text that is right but for it: Decls and rules whose names end with a #, which is turned into a letter; and the time at which that fault is met.
type part struct {
	time         int
	err          api.Errno
	decls, rules string
}

func (p part) lettered(letter string) part {
	p.decls, p.rules = strings.ReplaceAll(p.decls, "#", letter), strings.ReplaceAll(p.rules, "#", letter)
	return p
}

func (p part) unmarked() part {
	p.decls, p.rules = strings.ReplaceAll(p.decls, "@", ""), strings.ReplaceAll(p.rules, "@", "")
	return p
}

func parts() []part {
	eleven := strings.Repeat(" v#", 11)
	return []part{
		{1, api.ErrParams, "", "@p#(X) : ;"},
		{1, api.ErrParams, "", "p# : @p#(p#) ;"},
		{1, api.ErrParams, "", "@p#(X) : n#(n#) ;"},
		{2, api.ErrArg, "@%tokens A# ;", ""},
		{2, api.ErrType, "@%token <Int> A# A# '' ;", ""},
		{2, api.ErrSymbol, "@%token A# $end A# ;", ""},
		{2, api.ErrSymbol, "%token A# ; @%token $accept A# ;", ""},
		{2, api.ErrTwice, "@%token A# A# '' ;", ""},
		{2, api.ErrTwice, "%left A# ; @%token A# ;", ""},
		{2, api.ErrType, "@%left <int> A# A# '' ;", ""},
		{2, api.ErrSymbol, "@%right A# '' A# ;", ""},
		{2, api.ErrTwice, "@%nonassoc A# A# $end ;", ""},
		{2, api.ErrTwice, "%left A# ; %token B# ; @%right B# A# ;", ""},
		{2, api.ErrType, "@%type <Bool> ;", ""},
		{2, api.ErrType, "@%type q# q# n# ;", "q# ;"},
		{2, api.ErrStart, "@%start ;", ""},
		{2, api.ErrStart, "@%start n# n# ;", ""},
		{2, api.ErrStart, "%start s0 ; @%start s0 ;", ""},
		{3, api.ErrSymbol, "", "@$end : n# ;"},
		{3, api.ErrSymbol, "", "t# ; @'' : ;"},
		{3, api.ErrTwice, "", "t# : ; @t# : n# ;"},
		{3, api.ErrTwice, "%token T# ;", "@T# : T# ;"},
		{3, api.ErrTwice, "%right T# ;", "t# : T# ; @T# : ;"},
		{4, api.ErrSymbol, "@%type <int> n# ;", ""},
		{4, api.ErrSymbol, "%token U# ; @%type <int> u# U# ;", "u# : U# ;"},
		{4, api.ErrTwice, "@%type <int> u# u# ;", "u# : ;"},
		{4, api.ErrTwice, "%type <int> u# ; @%type <bool> u# ;", "u# : u# ;"},
		{4, api.ErrStart, "@%start n# ;", ""},
		{4, api.ErrStart, "%token U# ; @%start U# ;", ""},
		{5, api.ErrMany, "", "v# : | @" + eleven + " n# %prec n# ;"},
		{5, api.ErrSymbol, "", "v# : v# @n# v# n# %prec n# ;"},
		{5, api.ErrSymbol, "", "v# : @$accept ;"},
		{5, api.ErrSymbol, "", "v# : | @ v# %prec n# ;"},
		{5, api.ErrSymbol, "", "v# : @ %prec v# ;"},
		{6, api.ErrMany, "%token " + strings.ReplaceAll(numbered("A", 0, 64), " ", "# ") + "# ;", ""},
		{6, api.ErrMany, "", strings.ReplaceAll(numbered("w", 0, 64), " ", "# ; ") + "# ;"},
		{6, api.ErrMany, "", "w# : " + strings.Repeat("| ", 130) + ";"},
	}
}

// TestTimes: P14.1; of two faults that of the earlier time is told, and of one time the one that stands ahead.
func TestTimes(t *testing.T) {
	for _, a := range parts() {
		for _, b := range parts() {
			if strings.Contains(a.decls, "%start") && strings.Contains(b.decls, "%start") {
				continue // both of them are at odds with each other
			}
			ahead, behind, err := a.lettered("x"), b.lettered("y").unmarked(), a.err
			if b.time < a.time {
				ahead, behind, err = ahead.unmarked(), b.lettered("y"), b.err
			}
			isFault(t, ahead.decls+" "+behind.decls+" %% s0 : ; "+ahead.rules+" "+behind.rules, err)
		}
	}
}

// TestNoRules: {ErrStart, 0} comes behind all that Decls have of the second time, and ahead of what they have of the fourth.
func TestNoRules(t *testing.T) {
	for _, p := range parts() {
		if p.rules != "" {
			continue
		}
		if p.time > 2 {
			p, p.err = p.unmarked(), api.ErrStart
		}
		isFault(t, p.decls+" %%", p.err)
	}
}
