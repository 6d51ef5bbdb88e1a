package parse_test

import (
	"strings"

	"gristmill/api"
	"gristmill/scan"
)

// language is the document's, but for what stands behind ":=" and "=", and for x in a head; blanks stand between all its tokens.
const language = `
file = "package" name ";" { ( struct | func ) ";" } end
struct = "type" name "struct" "{" [ field { ";" field } [ ";" ] ] "}"
field = name type
func = "func" name "(" [ field { "," field } [ "," ] ] ")" [ type | "(" type { "," type } [ "," ] ")" ] block
type = name | "[" "]" type
block = "{" [ stmt { ";" stmt } [ ";" ] ] "}"
action = [ stmt { ";" stmt } [ ";" ] ] end
stmt = "var" name type [ "=" x ] | if | [ name ":" ] "for" [ h ] block | "switch" h "{" { case } [ last ] "}" | "return" [ x { "," x } ] | "break" [ name ] | "continue" [ name ] | block | call | define | assign
if = "if" h block [ "else" ( if | block ) ]
case = label { stmt ";" }
last = label { stmt ";" } stmt
label = ( "case" x { "," x } | "default" ) ":"
place = ( name | dollar ) { "[" x "]" | "." name }
call = name "(" [ x { "," x } [ "," ] ] ")"
key = name ":" x
x = and { "||" and }
and = cmp { "&&" cmp }
cmp = sum { ( "==" | "!=" | "<" | "<=" | ">" | ">=" ) sum }
sum = term { ( "+" | "-" ) term }
term = unary { ( "*" | "/" | "%" ) unary }
unary = ( "-" | "!" ) unary | part
part = first { "[" x "]" | "[" ":" x "]" | "." name }
first = make | bare
make = name "{" [ key { "," key } [ "," ] ] "}"
bare = int | float | string | "true" | "false" | name | dollar | call | "(" x ")" | "[" "]" type "{" [ x { "," x } [ "," ] ] "}"
h = hand { "||" hand }
hand = hcmp { "&&" hcmp }
hcmp = hsum { ( "==" | "!=" | "<" | "<=" | ">" | ">=" ) hsum }
hsum = hterm { ( "+" | "-" ) hterm }
hterm = hunary { ( "*" | "/" | "%" ) hunary }
hunary = ( "-" | "!" ) hunary | hpart
hpart = bare { "[" x "]" | "[" ":" x "]" | "." name }
`

const mostPlaces = 20

// definitions are the rules of define and assign: of so many names and places there are as many x, or one call.
func definitions() string {
	define, assign := "define = name \":=\" x", "assign = place \"=\" x"
	names, places, xs := "name", "place", "x"
	for range mostPlaces - 1 {
		names, places, xs = names+" \",\" name", places+" \",\" place", xs+" \",\" x"
		define += " | " + names + " \":=\" call"
		assign += " | " + places + " \"=\" " + xs + " | " + places + " \"=\" call"
	}
	return define + "\n" + assign + "\n"
}

// book is a grammar in which rules stand by the numbers of their symbols: from 0 on those with rules, below 0 tokens.
type book struct {
	names  map[string]int
	tokens []string
	rules  [][][]int
	empty  []bool // may be of nothing
	depth  []int  // of the least tree
}

func (b *book) symbol(name string) int {
	if _, ok := b.names[name]; !ok {
		b.names[name] = len(b.rules)
		b.rules = append(b.rules, nil)
	}
	return b.names[name]
}

func (b *book) token(text string) int {
	for i, s := range b.tokens {
		if s == text {
			return -1 - i
		}
	}
	b.tokens = append(b.tokens, text)
	return -len(b.tokens)
}

func openBook() *book {
	b := &book{names: map[string]int{}}
	for line := range strings.Lines(language + definitions()) {
		if words := strings.Fields(line); len(words) > 0 {
			left := b.symbol(words[0])
			rest := words[2:]
			b.rules[left] = b.alternatives(&rest)
		}
	}
	b.measure()
	return b
}

func (b *book) alternatives(rest *[]string) [][]int {
	out := [][]int{nil}
	for len(*rest) > 0 {
		word := (*rest)[0]
		*rest = (*rest)[1:]
		last := len(out) - 1
		switch {
		case word == "|":
			out = append(out, nil)
		case strings.Contains(")]}", word):
			return out
		case strings.Contains("([{", word):
			inner := b.symbol("group " + word + strings.Join(*rest, " "))
			rules := b.alternatives(rest)
			if word == "{" {
				for i := range rules {
					rules[i] = append([]int{inner}, rules[i]...)
				}
			}
			if word != "(" {
				rules = append(rules, nil)
			}
			b.rules[inner] = rules
			out[last] = append(out[last], inner)
		case word[0] == '"':
			out[last] = append(out[last], b.token(strings.Trim(word, "\"")))
		case strings.Contains(" name int float string dollar end ", " "+word+" "):
			out[last] = append(out[last], b.token(word))
		default:
			out[last] = append(out[last], b.symbol(word))
		}
	}
	return out
}

// measure finds what may be of nothing, and how deep the least trees are.
func (b *book) measure() {
	const far = 1 << 20
	b.empty, b.depth = make([]bool, len(b.rules)), make([]int, len(b.rules))
	for i := range b.depth {
		b.depth[i] = far
	}
	for range b.rules {
		for i, rules := range b.rules {
			for _, rule := range rules {
				b.depth[i] = min(b.depth[i], b.depthOf(rule)+1)
				b.empty[i] = b.empty[i] || b.allEmpty(rule)
			}
		}
	}
}

func (b *book) depthOf(rule []int) int {
	deepest := 0
	for _, s := range rule {
		if s >= 0 {
			deepest = max(deepest, b.depth[s])
		}
	}
	return deepest
}

func (b *book) allEmpty(rule []int) bool {
	for _, s := range rule {
		if s < 0 || !b.empty[s] {
			return false
		}
	}
	return true
}

// item is a rule with a dot, and the column where it was begun.
type item struct{ left, rule, dot, from int }

// chart is what was found of tokens, a column behind each.
type chart struct {
	book    *book
	columns [][]item
}

func (b *book) start(name string) *chart {
	c := &chart{book: b}
	c.fill(c.begun(nil, b.names[name], 0))
	return c
}

func (c *chart) begun(items []item, left, from int) []item {
	for i := range c.book.rules[left] {
		items = append(items, item{left, i, 0, from})
	}
	return items
}

func (c *chart) ahead(i item) (int, bool) {
	rule := c.book.rules[i.left][i.rule]
	if i.dot == len(rule) {
		return 0, false
	}
	return rule[i.dot], true
}

// fill closes a column: what is to come is begun, what is done goes on where it was begun.
func (c *chart) fill(items []item) {
	here := len(c.columns)
	seen := map[item]bool{}
	var column []item
	for len(items) > 0 {
		i := items[len(items)-1]
		items = items[:len(items)-1]
		if seen[i] {
			continue
		}
		seen[i] = true
		column = append(column, i)
		symbol, more := c.ahead(i)
		switch {
		case more && symbol >= 0:
			items = c.begun(items, symbol, here)
			if c.book.empty[symbol] {
				items = append(items, item{i.left, i.rule, i.dot + 1, i.from})
			}
		case !more && i.from < here:
			for _, j := range c.columns[i.from] {
				if s, ok := c.ahead(j); ok && s == i.left {
					items = append(items, item{j.left, j.rule, j.dot + 1, j.from})
				}
			}
		}
	}
	c.columns = append(c.columns, column)
}

// take tells whether the tokens so far, with this one, are the beginning of something; if not, it is not taken.
func (c *chart) take(class string) bool {
	var items []item
	token := c.book.token(class)
	for _, i := range c.columns[len(c.columns)-1] {
		if s, ok := c.ahead(i); ok && s == token {
			items = append(items, item{i.left, i.rule, i.dot + 1, i.from})
		}
	}
	if len(items) == 0 {
		return false
	}
	c.fill(items)
	return true
}

// class is by what the document's language names a token; a dollar is none of a file.
func class(t api.Token, dollars bool) string {
	switch t.Kind {
	case api.TokName:
		return "name"
	case api.TokInt:
		return "int"
	case api.TokFloat:
		return "float"
	case api.TokString:
		return "string"
	case api.TokEnd:
		return "end"
	case api.TokDollar:
		if dollars {
			return "dollar"
		}
		return "none"
	}
	return t.Text
}

// fault is that of a source by the book, begun with what is known of its first tokens.
func (c *chart) fault(tokens []api.Token, dollars bool) (api.Fault, int) {
	for i, t := range tokens {
		if !c.take(class(t, dollars)) {
			return api.Fault{Err: api.ErrSyntax, At: t.At}, i
		}
	}
	return api.Fault{}, len(tokens)
}

// of is the fault of a source by the book.
func (b *book) of(start, s string) api.Fault {
	tokens, fault := scan.Tokens(s)
	if fault != (api.Fault{}) {
		return fault
	}
	fault, _ = b.start(start).fault(tokens, start == "action")
	return fault
}
