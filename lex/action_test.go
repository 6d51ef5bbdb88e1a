package lex_test

import (
	"strconv"
	"strings"
	"testing"
)

func TestActionsOrdinary(t *testing.T) {
	for _, text := range []string{
		"", " ", "a", " $$ = $1 + $3 ", "\n\t$$ = $1\n", "%token", "%%", "%", "=", "'", "'a'", "`", "a / b", "a/b", "/", "/*", "/* */", "*/", "/ /", "\\", "\\\\", "a\\", "//\n", "// a\n", "//a\n//b\n", "a//b\nc", "\"\"", "\"a\"", "\"a\"\"b\"", "\"a\" + \"b\"",
		"{}", "{{}}", "{}{}", "{a}", "a{b}c", "{{a}{b}}{c}", "if a { b() } else { c() }", "{{{{{{{{}}}}}}}}", "{//\n}", "{\"\"}", "\x00\x01\x7f\x80\xff", "caf\u00e9 \u2028", strings.Repeat("a", 41), "0 1 9 @ # ~ ! ^ & * ( ) [ ] ; : , . ?",
	} {
		wants(t, "{"+text+"}", action(text))
		wants(t, "a {"+text+"};", "N:a@0 A:"+strconv.QuoteToASCII(text)+"@2 ;@"+strconv.Itoa(4+len(text))+" E@"+strconv.Itoa(5+len(text)))
	}
}

func TestActionsBracesStringsComments(t *testing.T) {
	for _, text := range []string{
		"\"{\"", "\"}\"", "\"{{{\"", "\"}}}\"", "\"}{\"", "{\"}\"}", "{\"{\"}", "\"}\"{\"}\"}\"}\"",
		"//{\n", "//}\n", "// }}} {{{\n", "{//}\n}", "//}\n{//{\n}//}\n",
		"//\"\n", "// \"\"\"\n", "//\"}\n\"}\"", "//\\\n", "//\\\"\n", "a//b\"c{\n", "///\"\n", "/*//\"*/\n", "//a//\"\n",
		"\"//\"", "\"//}\"", "\"//\"//\"\n", "\"a//\\\"b\"", "\"/\"/\"/\"", "/\"//\"", "\"//\"/", "\"/*\"", "/\"/\"/\"//\"",
		"\"\\\"\"", "\"\\\"}\"", "\"\\\"{\"", "\"\\\\\"", "\"\\\\\\\"\"", "\"\\\\\\\\\"", "\"\\\n\"", "\"a\\\nb\\\n\"", "\"\\\\\\\n\"", "\"\\\r\\\n\"", "\"\\n\"", "\"\\x41\"", "\"\\{\"", "\"\\}\"", "\"\\/\\/\"", "\"\\\x80\\\xff\\\x00\"",
		"\\\"}\"", "\\\"\\\"\"", "\\\\\"}\"", "\\//\"\n", "\\{\\}", "\\\n", "/\\/",
		"\"\r\"", "\"\t\"", "\"\x00\"", "\"'\"", "'\"}'\"", "'\"'\"", "`\"}`\"", "\"`\"", "\"a\"\n\"b\"", "\"\"\n\"\"",
	} {
		wants(t, "{"+text+"}", action(text))
		wants(t, "{"+text+"}{"+text+"}", "A:"+strconv.QuoteToASCII(text)+"@0 A:"+strconv.QuoteToASCII(text)+"@"+strconv.Itoa(len(text)+2)+" E@"+strconv.Itoa(2*len(text)+4))
		wants(t, "{{"+text+"}}", action("{"+text+"}"))
		for end := range text {
			cut(t, "{"+text, end+1)
		}
		cut(t, "{"+text, len(text)+1)
	}
}

// cut wants of a source that is an action's beginning that it is none.
func cut(t *testing.T, s string, end int) {
	t.Helper()
	wants(t, s[:end], noToken(0))
	wants(t, " a"+s[:end], noToken(2))
	wants(t, "{"+s[:end], noToken(0))
}

func TestActionsThatEndEarly(t *testing.T) {
	for s, want := range map[string]string{
		"{}}": noByte(2), "{a}}": noByte(3), "{}\"}": noByte(2), "{{}}}": noByte(4), "{\"\"}}": noByte(4), "{//\n}}": noByte(5), "{\\}": action("\\"), "{\\}}": noByte(3), "{'}'}": noByte(3), "{`}`}": noByte(3), "{/*}*/}": noByte(4), "{/}": action("/"), "{\"\\\\\"}\"": noByte(6),
		"{}a": "A:\"\"@0 N:a@2 E@3", "{}{": noToken(2), "{}%": noToken(2), "{/}//}": "A:\"/\"@0 E@6", "{ } // }\n}": noByte(9), "{\"a\"}{\"b}": noToken(5), "{\n}\n{\n": noToken(4),
	} {
		wants(t, s, want)
	}
}

func TestActionsThatTheEndCuts(t *testing.T) {
	for _, s := range []string{
		"{", "{{", "{{}", "{}{", "{a", "{ ", "{\n", "{{a}", "{{{}}",
		"{\"", "{\"}", "{\"a", "{\"a}", "{\"\"", "{\"\"\"}", "{\"a\"\"}", "{{\"}}",
		"{\"\\", "{\"\\\"", "{\"\\\"}", "{\"\\\\", "{\"\\\\\\\"}", "{\"\\\n", "{\"a\\\n}", "{\\\"}", "{'\"'}", "{`\"`}",
		"{//", "{//}", "{// }", "{//}}}", "{a//}\r", "{{}//}", "{\"//\"//}", "{///}", "{////}", "{//\n", "{//\n//}", "{/", "{a/", "{//\\\n",
		"{\\", "{\\{}", "{\x80", "{\"\x80", "{\"\\\x80", "{//\x80",
	} {
		at := strings.LastIndex(s, "}{") + 1
		wants(t, s, noToken(at))
		wants(t, "a \n"+s, noToken(at+3))
		wants(t, "%%{ok}"+s, noToken(at+6))
	}
}

func TestStringsThatALineCuts(t *testing.T) {
	for _, s := range []string{
		"{\"\n\"}", "{\"\n", "{\"\n}", "{\"a\nb\"}", "{\"\r\n\"}", "{\"}\n\"}", "{\"//\n\"}", "{\"a\"\"\n\"}", "{{\"\n\"}}", "{\"\\\\\n\"}", "{\"\\\n\n\"}", "{\"\\\r\n\"}", "{\"\\\"\n\"}", "{//\n\"\n\"}", "{'\"'\n\"}\"}", "{\\\"\n\"}", "{/\"\n\"}", "{\"\x80\n\"}",
	} {
		wants(t, s, noToken(0))
		wants(t, "// {\n:"+s, noToken(6))
		wants(t, "{}"+s+" # {", noToken(2))
	}
}

func TestEachByteWithinAnAction(t *testing.T) {
	for c := range 256 {
		s := oneByte(c)
		switch c {
		case '{':
			wants(t, "{"+s+"}", noToken(0))
			wants(t, "{a"+s+"b}", noToken(0))
			wants(t, "{a"+s+"b}}", action("a{b}"))
			wants(t, "{a"+s+"b}c}", action("a{b}c"))
		case '}':
			wants(t, "{"+s+"}", noByte(2))
			wants(t, "{a"+s+"b}", noByte(4))
			wants(t, "{a"+s+"{b}", "A:\"a\"@0 A:\"b\"@3 E@6")
		case '"':
			wants(t, "{"+s+"}", noToken(0))
			wants(t, "{a"+s+"b}", noToken(0))
			wants(t, "{a"+s+"}\"}", action("a\"}\""))
		default:
			for _, around := range []string{"?", "a?", "?b", "a?b", " ? ", "\"\"?\"\"", "{}?{}", "//\n?//\n", "\\?\\", "{?}", "? /", "a\n?\nb", "'?'"} {
				text := strings.ReplaceAll(around, "?", s)
				wants(t, "{"+text+"}", action(text))
			}
		}
	}
}

func TestEachByteBehindASlashWithinAnAction(t *testing.T) {
	for c := range 256 {
		text := "/" + oneByte(c)
		want := action(text)
		switch c {
		case '/', '{', '"':
			want = noToken(0)
		case '}':
			want = noByte(3)
		}
		wants(t, "{"+text+"}", want)
	}
}

func TestEachByteWithinACommentOfAnAction(t *testing.T) {
	for c := range 256 {
		text := "//" + oneByte(c)
		wants(t, "{"+text+"\n}", action(text+"\n"))
		wants(t, "{ "+text+"a\n}", action(" "+text+"a\n"))
		if c == '\n' {
			wants(t, "{"+text+"}", action(text))
		} else {
			wants(t, "{"+text+"}", noToken(0))
			wants(t, "{"+text+"}\n", noToken(0))
			wants(t, "{"+text+"}\n}", action(text+"}\n"))
		}
	}
}

func TestEachByteWithinAStringOfAnAction(t *testing.T) {
	for c := range 256 {
		s := oneByte(c)
		want := func(text string) string {
			if c == '"' || c == '\\' || c == '\n' {
				return noToken(0)
			}
			return action(text)
		}
		for _, around := range []string{"\"?\"", "\"{?\"", "\"}?\"", "\"\\n?\"", "\"\\\\?\"", "\"\\\"?\"", "\"//?\"", "\"a\"+\"?\"", "{\"?\"}"} {
			text := strings.ReplaceAll(around, "?", s)
			wants(t, "{"+text+"}", want(text))
		}
	}
}

func TestEachByteBehindABackslashWithinAnAction(t *testing.T) {
	for c := range 256 {
		s := oneByte(c)
		for _, around := range []string{"\"\\?\"", "\"a\\?b\"", "\"\\\\\\?\"", "\"\\??\"", "\"\\?\\?\""} {
			text := strings.ReplaceAll(around, "?", s)
			want := action(text)
			if around == "\"\\??\"" && (c == '"' || c == '\\' || c == '\n') {
				want = noToken(0)
			}
			wants(t, "{"+text+"}", want)
		}
		wants(t, "{\"\\"+s, noToken(0))
		wants(t, "{\"\\"+s+"}", noToken(0))
	}
}

// TestEachByteBehindABackslashOutsideOfStrings holds that there it goes by alone.
func TestEachByteBehindABackslashOutsideOfStrings(t *testing.T) {
	for c := range 256 {
		text := "\\" + oneByte(c)
		want := action(text)
		switch c {
		case '{', '"':
			want = noToken(0)
		case '}':
			want = noByte(3)
		}
		wants(t, "{"+text+"}", want)
	}
}
