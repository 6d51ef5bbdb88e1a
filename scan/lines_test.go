package scan_test

import (
	"slices"
	"strconv"
	"strings"
	"testing"
	"unsafe"

	"gristmill/api"
	"gristmill/scan"
)

// tails end a line, or the source, each with how far its line's end lies.
func tails() map[string]int {
	return map[string]int{
		"": 0, " ": 1, "\t\r ": 3, "//": 2, " // c": 5, "\n": 0, " \n": 1, "\r\n": 1, "\t \r\n": 3, "//\n": 2, "// c\n": 4, "\t// c ; \"\r\n": 10, " //\n\n": 3,
		"\n\n\n": 0, "\n \n\t// c\n": 0, "\r\n\r\n": 1, "\n// c": 0, "\n//\n\n ": 0,
	}
}

func TestSemicolonsAtLinesEnds(t *testing.T) {
	may := map[string]string{
		"a": "N:a", "_1": "N:_1", strings.Repeat("a", 40): "N:" + strings.Repeat("a", 40), "0": "I:0", "12": "I:12", "1.5": "F:1.5", "\"\"": "S:\"\"", "\";\"": "S:\";\"", "$$": "D:$", "$1": "D:1", "$12": "D:12",
		"break": "W:break", "continue": "W:continue", "return": "W:return", "true": "W:true", "false": "W:false", ")": ")", "]": "]", "}": "}",
	}
	for s, token := range may {
		for tail, far := range tails() {
			at := strconv.Itoa(len(s) + far)
			wants(t, s+tail, token+"@0 ;@"+at+" E@"+strconv.Itoa(len(s+tail)))
			behind := strconv.Itoa(len(s+tail) + 1)
			if strings.HasSuffix(tail, "\n") {
				wants(t, s+tail+"{", token+"@0 ;@"+at+" {@"+strconv.Itoa(len(s+tail))+" E@"+behind)
			}
			if !strings.ContainsAny(tail, "/\n") {
				wants(t, s+tail+"{", token+"@0 {@"+strconv.Itoa(len(s+tail))+" E@"+behind)
				wants(t, s+tail+";\n", token+"@0 ;@"+strconv.Itoa(len(s+tail))+" E@"+strconv.Itoa(len(s+tail)+2))
			}
		}
	}
}

func TestNoSemicolonsAtLinesEnds(t *testing.T) {
	mayNot := map[string]string{}
	for _, s := range signs() {
		if s != ")" && s != "]" && s != "}" {
			mayNot[s] = s
		}
	}
	for _, w := range strings.Fields("case default else for func if package struct switch type var") {
		mayNot[w] = "W:" + w
	}
	for s, token := range mayNot {
		for tail := range tails() {
			if s == "/" && strings.HasPrefix(tail, "/") {
				continue
			}
			wants(t, s+tail, token+"@0 E@"+strconv.Itoa(len(s+tail)))
			wants(t, "\n"+s+tail, token+"@1 E@"+strconv.Itoa(1+len(s+tail)))
		}
	}
}

func TestSemicolonsOfManyLines(t *testing.T) {
	for s, want := range map[string]string{
		"a +\nb":                     "N:a@0 +@2 N:b@4 ;@5 E@5",
		"a\n+ b":                     "N:a@0 ;@1 +@2 N:b@4 ;@5 E@5",
		"f(\na,\nb)\n":               "N:f@0 (@1 N:a@3 ,@4 N:b@6 )@7 ;@8 E@9",
		"f(a\n)":                     "N:f@0 (@1 N:a@2 ;@3 )@4 ;@5 E@5",
		"a;\nb\n;":                   "N:a@0 ;@1 N:b@3 ;@4 ;@5 E@6",
		"return\nbreak//\ncontinue":  "W:return@0 ;@6 W:break@7 ;@14 W:continue@15 ;@23 E@23",
		"\n\n)\n\n\n]\n":             ")@2 ;@3 ]@6 ;@7 E@8",
		"}\nelse\n{\n}":              "}@0 ;@1 W:else@2 {@7 }@9 ;@10 E@10",
		"\"a\"\n\"b\" // c\n// d\ne": "S:\"a\"@0 ;@3 S:\"b\"@4 ;@12 N:e@18 ;@19 E@19",
	} {
		wants(t, s, want)
	}
}

func TestPlaceOfTheFirstFault(t *testing.T) {
	for s, want := range map[string]string{
		"# go": noByte(0), "go #": noToken(0), "a\n # 007 go": noByte(3), "a\r\n\t007 # go": noToken(4), "// # go\n$ #": noToken(8), "\"#\" # $": noByte(4), "a \"\n#": noToken(2), "a++ #": noToken(1), "a+ +# 007": noByte(4),
		"x /* # */": noToken(2), "1.5 1.": noToken(4), "a.b._": noToken(4), "if go": noToken(3), "$1 $0 #": noToken(3), "\"\\q\" \"\\": noToken(0), "\"\" \"\\q\"": noToken(3), "a\n\n\n  @": noByte(6), "\n\n_": noToken(2), "\x00": noByte(0), "a\x00": noByte(1), "\xef\xbb\xbfa": noByte(0), "a\u00e9": noByte(1), "a\x0bb": noByte(1), "a\x0cb": noByte(1), "\x7f": noByte(0), "a\u2028": noByte(1),
	} {
		wants(t, s, want)
	}
}

func TestLongSources(t *testing.T) {
	for _, c := range []struct{ unit, token string }{{" ", ""}, {"\n", ""}, {"//  ", ""}, {"//\n\n", ""}, {";", ";"}, {"+ ", "+"}} {
		s := strings.Repeat(c.unit, 1<<16/len(c.unit))
		tokens, fault := scan.Tokens(s)
		many := 1
		if c.token != "" {
			many = strings.Count(s, c.token) + 1
		}
		if fault != (api.Fault{}) || len(tokens) != many || tokens[many-1] != (api.Token{Kind: api.TokEnd, At: 1 << 16}) {
			t.Errorf("%q: %v, %d tokens; wanted %d", c.unit, fault, len(tokens), many)
		}
		for _, longer := range []string{s + " ", " " + s, s + "\n", s + "#", s + s, strings.Repeat(s, 100)} {
			wants(t, longer, "fault 3@0")
		}
	}
	for s, want := range map[string]string{
		strings.Repeat(" ", 1<<16-1) + "#": noByte(1<<16 - 1), strings.Repeat(" ", 1<<16-1) + "$": noToken(1<<16 - 1), strings.Repeat("\n", 1<<16-2) + "go": noToken(1<<16 - 2), strings.Repeat(" ", 1<<16-1) + "a": "N:a@65535 ;@65536 E@65536", "a" + strings.Repeat(" ", 1<<16-1): "N:a@0 ;@65536 E@65536",
		"#" + strings.Repeat(" ", 1<<16): "fault 3@0", "go" + strings.Repeat(" ", 1<<16): "fault 3@0", strings.Repeat("#", 1<<16): noByte(0), strings.Repeat("a", 1<<16): noToken(0), "\"" + strings.Repeat("a", 1<<16-1): noToken(0),
	} {
		wants(t, s, want)
	}
}

func TestTokensAreNewMemory(t *testing.T) {
	s := "if a { b(\"c\", 1.5) }\n$$ = $1"
	first, _ := scan.Tokens(s)
	kept := slices.Clone(first)
	for i := range first {
		first[i] = api.Token{Kind: api.TokAction, Text: "?", At: -1}
	}
	clear(append(first, first...))
	if second, _ := scan.Tokens(s); !slices.Equal(second, kept) {
		t.Errorf("%s; wanted %s", spell(second, api.Fault{}), spell(kept, api.Fault{}))
	}
}

// TestTokensKeepNoSource writes over the bytes of a source that is told already.
func TestTokensKeepNoSource(t *testing.T) {
	source := "abc := \"def\" + 1.5 == $12 && true\n"
	b := []byte(source)
	tokens, fault := scan.Tokens(unsafe.String(&b[0], len(b)))
	if string(b) != source {
		t.Errorf("changed: %q", b)
	}
	clear(b)
	want, _ := scan.Tokens(source)
	if !slices.Equal(tokens, want) {
		t.Errorf("%s; wanted %s", spell(tokens, fault), spell(want, fault))
	}
}

func TestTokensAlikeEachTime(t *testing.T) {
	s := "x := \"\\n\\t\\r\\\\\\\"\\x41\" + $12\n"
	want := spell(scan.Tokens(s))
	for range 100 {
		wants(t, s, want)
	}
}
