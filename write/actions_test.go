package write_test

import (
	"math/rand"
	"slices"
	"strings"
	"testing"

	"gristmill/api"
)

// actions are such that {, they and } are one action.
func actions() []string {
	return []string{
		"", " ", "a", " $$ = $1 + $3; ", "\n", "\n\t$$ = $1\n", "\r\n", "\x00", "\xff", "\u00e9", "=", "%", "%%", "%foo", "%prec", ";", "|", ":", "prec", "'", "`", "\\", "'{}'",
		"{}", "{{}}", "{}{}", " { a } { b } ", "{{}{}}{}", strings.Repeat("{", 1000) + strings.Repeat("}", 1000), "if a { b } else { c }", "a{b{c{}d}e}f",
		"\"\"", "\"a\"", "\"}\"", "\"{\"", "\"{\"\"}\"", "\"}}}{\"", "\"\\\"\"", "\"\\\"}\"", "\"\\\\\"", "\"\\\\\\\"{\"", "\"\\\n\"", "\"a\\\n}\\\"\"", "\"\r\"", "\"\t\xff\x00\"", "\"//\"", "\"//\" + \"}\"", "\"/\"/\"/\"", "{\"}\"}", "\"'\"", "\"a\"\"b\"",
		"//\n", "// }\n", "// {\n", "// \"\n", "//}\n//{\n", "///\n", "// //\n", "//\\\n", "// \\\n", "//\n\"}\"", "{//}\n}", "\"\"//\"\n", "{ // }\n}", "//\r\n", "//\n//\n", "//\xff\n",
		"/", "/ /", "/a/", "a / b", "/\n/", "/{}", "/\"}\"", "*/", "/*", "/ *{}*/", "\\\"}\"", "\\\"\\\"\"", "\\//\n", "\\{}", "\\\\", "'\"}\"'",
	}
}

// noActions are cut, or close more than they open.
func noActions() []string {
	return []string{
		"{", "}", "}{", "{}}", "{{}", "}}", "{{", "{}{", "}{}", "{}}{", "{{}}}{", "a}", "a}b", "{a", "\\{", "\\}", "'{'", "'}'", "`}`", "%{", "%}", "{\n", "}\n", " } {",
		"\"", "\"a", "\"\\\"", "\"\\", "\"\n\"", "\"\n", "\"a\nb\"", "\"\\\\", "\"\\\\\n\"", "\"\\a\n\"", "\"\"\"", "\"}\"\"", "\"{\"{", "\"}\"}", "{\"}\"", "\\\"", "\\\"\\\"", "'\"'", "\"\\\n", "\"\\\n\n\"", "a\"", "\"\\\r\n\"",
		"//", "// ", "//a", "// }", "// \"\"", "//\\", "///", "//\r", "// {}", "a//b", "{//}", "{}//", "//\n//", "//\n}", "//\n{", "//\n\"", "\"\"//", "{//\n", "/*}*/", "/}", "/{", "/\"", "/ {", "//\x00", "\n//",
		strings.Repeat("{", 1000) + strings.Repeat("}", 999), strings.Repeat("{", 999) + strings.Repeat("}", 1000),
	}
}

func TestActions(t *testing.T) {
	for _, s := range actions() {
		isWritten(t, acted(s), "%%\ne: {"+s+"}\n\t;\n")
		isWritten(t, altered(alt(), act(prec(alt(word("a")), "P"), s), act(alt(), s)), "%%\ne:\n\t| a %prec P {"+s+"}\n\t| {"+s+"}\n\t;\n")
	}
	for _, s := range noActions() {
		isRefused(t, acted(s))
		isRefused(t, altered(act(prec(alt(word("a")), "P"), s)))
		isRefused(t, altered(act(alt(), ""), act(alt(), s)))
		isRefused(t, altered(act(alt(), s), act(alt(), "")))
		isRefused(t, ruled(rule("e", act(alt(), s)), rule("f", alt())))
		isRefused(t, altered(act(alt(), s), act(alt(), s)))
		isRefused(t, altered(act(alt(), "{"+s), act(alt(), s+"}")))
	}
}

// TestActionsWhole: of two that are whole each part of one is whole beside the other.
func TestActionsWhole(t *testing.T) {
	for _, a := range actions() {
		for _, b := range actions() {
			byTheBook(t, acted(a+b))
			byTheBook(t, acted("{"+a+"}"+b))
			byTheBook(t, acted(a+"\n"+b))
			isWritten(t, acted(a+" {"+b+"} "), "%%\ne: {"+a+" {"+b+"} }\n\t;\n")
		}
		for _, b := range noActions() {
			byTheBook(t, acted(a+b))
			byTheBook(t, acted(b+a))
			byTheBook(t, acted(b+a+b))
			isRefused(t, acted(a+" "+b))
		}
	}
}

// TestCutActions has each action cut at each place, and each byte of it left out.
func TestCutActions(t *testing.T) {
	for _, s := range slices.Concat(actions(), noActions()) {
		if len(s) > 100 {
			continue
		}
		for i := range len(s) + 1 {
			byTheBook(t, acted(s[:i]))
			byTheBook(t, acted(s[i:]))
			for _, more := range []string{"{", "}", "\"", "\\", "/", "//", "\n", "a", "{}", "\"}\"", "//}\n"} {
				byTheBook(t, acted(s[:i]+more+s[i:]))
			}
			if i < len(s) {
				byTheBook(t, acted(s[:i]+s[i+1:]))
			}
		}
	}
}

// TestShortActions has all of up to seven of the bytes that do something, and of one that does not.
func TestShortActions(t *testing.T) {
	const marks = "{}\"\\/\na"
	some := 0
	var all func(s string, left int)
	all = func(s string, left int) {
		x := acted(s)
		if is := isAction(s); is {
			some++
			if len(s) < 6 {
				isWritten(t, x, "%%\ne: {"+s+"}\n\t;\n")
			} else {
				isWrittenOnce(t, x, "%%\ne: {"+s+"}\n\t;\n")
			}
		} else {
			isRefusedOnce(t, x)
		}
		if left > 0 {
			for i := range len(marks) {
				all(s+marks[i:i+1], left-1)
			}
		}
	}
	all("", 7)
	if some < 10000 {
		t.Errorf("only %d of them are actions", some)
	}
}

// TestActionsOfEachByte has each byte alone, in a string, behind a \ and in a comment.
func TestActionsOfEachByte(t *testing.T) {
	for c := range 256 {
		b := string([]byte{byte(c)})
		for _, s := range []string{b, b + b, "a" + b, b + "a", "{" + b + "}", "\"" + b + "\"", "\"a" + b + "\"", "\"\\" + b + "\"", "\\" + b, "//" + b + "\n", "//" + b, "/" + b, b + "//\n", "\"\"" + b, b + "\"\"", "//\n" + b, "{}" + b, b + "{}", "\"" + b + "\\\"}\""} {
			byTheBook(t, acted(s))
		}
	}
}

// TestMixedActions has long ones, of pieces that are whole and some that are not.
func TestMixedActions(t *testing.T) {
	chance, some := rand.New(rand.NewSource(1)), 0
	pieces := strings.Split("a~b ~ ~\n~\"\"~\"}\"~\"{\"~\"\\\"\"~\"//\"~//\n~//}\n~//\"{\n~/ ~\\ ~'~\u00e9~\xff~$$ = $1~%%~{~}~{~}~{}~{ }~\"\\\n\"", "~")
	for range 30000 {
		var s strings.Builder
		for range chance.Intn(12) {
			s.WriteString(pieces[chance.Intn(len(pieces))])
		}
		if chance.Intn(4) == 0 {
			s.WriteString([]string{"\"", "/", "//", "\\", "\n", "}", "{"}[chance.Intn(7)])
		}
		if byTheBook(t, acted(s.String())) {
			some++
		}
	}
	if some < 5000 {
		t.Errorf("only %d of them are actions", some)
	}
}

// TestActionsOfAnyLength: how long a text is makes no difference to whether it may be written.
func TestActionsOfAnyLength(t *testing.T) {
	for _, n := range []int{1000, api.MaxSource - 14, api.MaxSource - 3, api.MaxSource - 2, api.MaxSource - 1, api.MaxSource, 3 * api.MaxSource} {
		long := strings.Repeat("a", n)
		for _, s := range []string{long, "\"" + long + "\"", "//" + long + "\n", "{" + long + "}", strings.Repeat("{}", n/2), strings.Repeat("{", n/2) + strings.Repeat("}", n/2), "\"" + strings.Repeat("\\\"", n/2) + "\"", strings.Repeat("//\n", n/3), long + "\"}\""} {
			isWritten(t, acted(s), "%%\ne: {"+s+"}\n\t;\n")
		}
		for _, s := range []string{long + "{", long + "}", "\"" + long, "\"" + long + "\n\"", "//" + long, "{" + long, "}" + long, strings.Repeat("{", n), strings.Repeat("}", n), strings.Repeat("\"\"", n/2) + "\"", "\"" + strings.Repeat("\\\"", n/2)} {
			isRefused(t, acted(s))
		}
	}
}
