package parse_test

import (
	"math/rand"
	"strings"
)

// writer makes up sources by the book.
type writer struct {
	*book
	chance *rand.Rand
	own    map[int]bool // symbols whose parts have a budget of their own
	out    []string
}

// tokens are the texts of a source's tokens, but of the end; of so many symbols with more than the least tree.
func (w *writer) tokens(start string, budget int) []string {
	w.out = nil
	w.write(w.names[start], &budget)
	return w.out[:len(w.out)-1]
}

func (w *writer) write(symbol int, budget *int) {
	if symbol < 0 {
		w.out = append(w.out, w.text(w.book.tokens[-1-symbol]))
		return
	}
	rules := w.rules[symbol]
	rule := rules[w.chance.Intn(len(rules))]
	if w.own[symbol] {
		// a share alone: a long part would leave nothing to what stands behind it
		*budget -= 3
		share := w.chance.Intn(max(*budget, 0)/2 + 1)
		budget = &share
	}
	if *budget--; *budget < 0 {
		for _, r := range rules {
			if w.depthOf(r) < w.depthOf(rule) {
				rule = r
			}
		}
	}
	for _, s := range rule {
		w.write(s, budget)
	}
}

func (w *writer) text(token string) string {
	switch token {
	case "name":
		return w.one("a b c x y p int f t2 string bool float64 len append _a Z9")
	case "int":
		return w.one("0 1 2 10 12345678901234567890")
	case "float":
		return w.one("0.0 1.5 10.25")
	case "string":
		return w.one(`"" "a" "\n\"\\" "\xff\x00" "//" ";"`)
	case "dollar":
		return w.one("$$ $1 $2 $9 $10 $42 $99")
	}
	return token
}

func (w *writer) one(texts string) string {
	all := strings.Fields(texts)
	return all[w.chance.Intn(len(all))]
}

// spaced puts blanks, comments and lines' ends between tokens, none where one would make another token; a ; may be a line's end.
func (w *writer) spaced(tokens []string) string {
	var s strings.Builder
	for i, t := range tokens {
		if i > 0 {
			s.WriteString(w.between(tokens[i-1], t))
		}
		if t == ";" && i > 0 && endsLine(tokens[i-1]) && w.chance.Intn(2) == 0 {
			t = []string{"\n", "// }\n", "\r\n\t"}[w.chance.Intn(3)]
		}
		s.WriteString(t)
	}
	return s.String()
}

func (w *writer) between(before, behind string) string {
	if !endsLine(before) && before != "" && w.chance.Intn(10) == 0 {
		return []string{"\n", " \n\n\t", " // {\n"}[w.chance.Intn(3)]
	}
	if w.chance.Intn(2) == 0 && (strings.Contains("()[]{},;", before) || strings.Contains("()[]{},;", behind)) {
		return ""
	}
	return []string{" ", "  ", "\t", " \r"}[w.chance.Intn(4)]
}

func endsLine(t string) bool {
	if strings.Contains(" break continue return true false ) ] } ", " "+t+" ") {
		return true
	}
	if strings.Contains(" case default else for func if package struct switch type var ", " "+t+" ") {
		return false
	}
	c := t[0]
	return c == '"' || c == '$' || c == '_' || c >= '0' && c <= '9' || c >= 'a' && c <= 'z' || c >= 'A' && c <= 'Z'
}

func newWriter(seed int64) *writer {
	w := &writer{book: openBook(), chance: rand.New(rand.NewSource(seed)), own: map[int]bool{}}
	for _, name := range strings.Fields("stmt case last x h func struct") {
		w.own[w.names[name]] = true
	}
	return w
}

// others are a token of each kind, and each word and sign.
func others() []string {
	return strings.Fields("a 1 1.5 \"a\" $1 $$ break case continue default else for func if package return struct switch type var true false { } ( ) [ ] , ; : := . = == != < <= > >= + - * / % ! && ||")
}

// nested is a text in so many pairs of others.
func nested(before string, many int, middle, behind string) string {
	return strings.Repeat(before, many) + middle + strings.Repeat(behind, many)
}
