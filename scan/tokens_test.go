package scan_test

import (
	"strconv"
	"strings"
	"testing"
)

func TestTokensOrdinary(t *testing.T) {
	for s, want := range map[string]string{
		"":                   "E@0",
		" \t\r ":             "E@4",
		"\n\n\n":             "E@3",
		"// a":               "E@4",
		"// a\n":             "E@5",
		"//":                 "E@2",
		"x := 1.5\n}":        "N:x@0 :=@2 F:1.5@5 ;@8 }@9 ;@10 E@10",
		"\"a\\x41\"":         "S:\"aA\"@0 ;@7 E@7",
		"$$ = $12":           "D:$@0 =@3 D:12@5 ;@8 E@8",
		"$$=$1+$$":           "D:$@0 =@2 D:1@3 +@5 D:$@6 ;@8 E@8",
		"if a{b()}else{}":    "W:if@0 N:a@3 {@4 N:b@5 (@6 )@7 }@8 W:else@9 {@13 }@14 ;@15 E@15",
		"a//b\nc":            "N:a@0 ;@4 N:c@5 ;@6 E@6",
		"a// \"b\n// c\n d":  "N:a@0 ;@6 N:d@13 ;@14 E@14",
		"a/b":                "N:a@0 /@1 N:b@2 ;@3 E@3",
		"a / / b":            "N:a@0 /@2 /@4 N:b@6 ;@7 E@7",
		"a///*\n":            "N:a@0 ;@5 E@6",
		"\"//\" // \"":       "S:\"//\"@0 ;@9 E@9",
		"x.f[0].g%2":         "N:x@0 .@1 N:f@2 [@3 I:0@4 ]@5 .@6 N:g@7 %@8 I:2@9 ;@10 E@10",
		"[]int{1,2,}":        "[@0 ]@1 N:int@2 {@5 I:1@6 ,@7 I:2@8 ,@9 }@10 ;@11 E@11",
		"!a&&-b||c<=d":       "!@0 N:a@1 &&@2 -@4 N:b@5 ||@6 N:c@8 <=@9 N:d@11 ;@12 E@12",
		"l: for { break l }": "N:l@0 :@1 W:for@3 {@7 W:break@9 N:l@15 }@17 ;@18 E@18",
		"a;;b;\n":            "N:a@0 ;@1 ;@2 N:b@3 ;@4 E@6",
		"// \x00\xff\"$#_\r": "E@10",
	} {
		wants(t, s, want)
	}
}

func TestEachByteAlone(t *testing.T) {
	for c := range 256 {
		s, want := string([]byte{byte(c)}), noByte(0)
		switch {
		case c == 9 || c == 10 || c == 13 || c == 32:
			want = "E@1"
		case c >= 'a' && c <= 'z' || c >= 'A' && c <= 'Z':
			want = alone("N:"+s, 1)
		case c >= '0' && c <= '9':
			want = alone("I:"+s, 1)
		case c == '_' || c == '"' || c == '$':
			want = noToken(0)
		case strings.Contains(")]}", s):
			want = alone(s, 1)
		case strings.Contains("{([,;:.=<>+-*/%!", s):
			want = s + "@0 E@1"
		}
		wants(t, s, want)
	}
}

func TestEachByteBehindANameAndANumber(t *testing.T) {
	for c := range 256 {
		s := string([]byte{byte(c)})
		letter, digit := c >= 'a' && c <= 'z' || c >= 'A' && c <= 'Z' || c == '_', c >= '0' && c <= '9'
		if letter || digit {
			wants(t, "a"+s, alone("N:a"+s, 2))
			wants(t, "a"+s+"a", alone("N:a"+s+"a", 3))
		}
		if digit {
			wants(t, "1"+s, alone("I:1"+s, 2))
			wants(t, "0."+s, alone("F:0."+s, 3))
			wants(t, "0"+s, noToken(0))
		}
		if letter || c == '.' {
			wants(t, "1"+s, noToken(0))
			wants(t, "0"+s, noToken(0))
			wants(t, "1.5"+s, noToken(0))
			wants(t, " 10"+s+" ", noToken(1))
		}
	}
	wants(t, "a.b", "N:a@0 .@1 N:b@2 ;@3 E@3")
	wants(t, "a\"b\"", "N:a@0 S:\"b\"@1 ;@4 E@4")
	wants(t, "a$1", "N:a@0 D:1@1 ;@3 E@3")
	wants(t, "1\"b\"$$2", "I:1@0 S:\"b\"@1 D:$@4 I:2@6 ;@7 E@7")
}

func TestEachTwoSigns(t *testing.T) {
	for _, s := range strings.Fields(":= == != <= >= && ||") {
		wants(t, s, s+"@0 E@2")
		if s[1] == '=' {
			wants(t, s[:1]+" =", s[:1]+"@0 =@2 E@3")
		} else {
			wants(t, s[:1]+" "+s[:1], noByte(0))
		}
	}
	for s, want := range map[string]string{
		"===": "==@0 =@2 E@3", "!==": "!=@0 =@2 E@3", ":==": ":=@0 =@2 E@3", "<==": "<=@0 =@2 E@3", ">==": ">=@0 =@2 E@3", "=:=": "=@0 :=@1 E@3", "=!=": "=@0 !=@1 E@3",
		"!!": "!@0 !@1 E@2", "=<": "=@0 <@1 E@2", "=-": "=@0 -@1 E@2", "->": "-@0 >@1 E@2", "+-": "+@0 -@1 E@2", "-+": "-@0 +@1 E@2", "<>": "<@0 >@1 E@2", "::": ":@0 :@1 E@2", "..": ".@0 .@1 E@2",
		"*/": "*@0 /@1 E@2", "%%": "%@0 %@1 E@2", "<=-": "<=@0 -@2 E@3", "&&&&": "&&@0 &&@2 E@4", "[]": "[@0 ]@1 ;@2 E@2", "<!": "<@0 !@1 E@2", "&&!": "&&@0 !@2 E@3", "{}": "{@0 }@1 ;@2 E@2",
		"&": noByte(0), "|": noByte(0), "&&&": noByte(2), "|||": noByte(2), "&|": noByte(0), "^": noByte(0), "!&": noByte(1), "&^": noByte(0), "&=": noByte(0), "|=": noByte(0), "~=": noByte(0),
		"<-": noToken(0), "<--": noToken(0), "-<-": noToken(1), "<<=": noToken(0), "=<<": noToken(1), "=++": noToken(1), "+++": noToken(0), ":--": noToken(1), "....": noToken(0), "a...": noToken(1), "/*/": noToken(0), "=/*": noToken(1), "//*": "E@3", ">>": noToken(0), ">>=": noToken(0),
	} {
		wants(t, s, want)
	}
	for _, s := range foreignSigns() {
		wants(t, s, noToken(0))
		wants(t, "a "+s+" b", noToken(2))
	}
}

func TestWordsAndNames(t *testing.T) {
	for _, w := range append(words(), foreignWords()...) {
		for n := 1; n < len(w); n++ {
			if w[:n] != "go" {
				wants(t, w[:n], alone("N:"+w[:n], n))
			}
		}
		for _, s := range []string{w + "s", w + "_", "_" + w, w + "0", "a" + w, w + "A", strings.ToUpper(w), strings.ToUpper(w[:1]) + w[1:]} {
			wants(t, s, alone("N:"+s, len(s)))
		}
	}
	for _, w := range words() {
		wants(t, w+"{", "W:"+w+"@0 {@"+strconv.Itoa(len(w))+" E@"+strconv.Itoa(len(w)+1))
	}
	for _, w := range foreignWords() {
		wants(t, w, noToken(0))
		wants(t, "a."+w+"(", noToken(2))
	}
	for _, s := range strings.Fields("a Z __ _1 _a a_ x1y2 int string bool float64 nil any len append panic print new make copy iota error uint8 byte") {
		wants(t, s, alone("N:"+s, len(s)))
	}
	wants(t, "_", noToken(0))
	wants(t, "a _ b", noToken(2))
	wants(t, "_,a", noToken(0))
}

func TestLongNames(t *testing.T) {
	for _, unit := range []string{"a", "_", "Z", "a1", "if", "go_x"} {
		s := strings.Repeat(unit, 40)
		wants(t, s[:39], alone("N:"+s[:39], 39))
		wants(t, s[:40], alone("N:"+s[:40], 40))
		for _, longer := range []string{s[:40] + "a", s[:40] + "1", s[:40] + "_", strings.Repeat(s, 100)} {
			wants(t, longer, noToken(0))
			wants(t, "a\n "+longer, noToken(3))
		}
	}
	s := strings.Repeat("a", 40)
	wants(t, s+"."+s, "N:"+s+"@0 .@40 N:"+s+"@41 ;@81 E@81")
}

func TestNumbers(t *testing.T) {
	for _, s := range strings.Fields("0 1 9 10 90 100 1001 1234567890 9223372036854775808") {
		wants(t, s, alone("I:"+s, len(s)))
		wants(t, s+".0", alone("F:"+s+".0", len(s)+2))
		wants(t, s+".000", alone("F:"+s+".000", len(s)+4))
		wants(t, s+"."+s, alone("F:"+s+"."+s, 2*len(s)+1))
		for _, wrong := range []string{"0" + s, "00" + s, "0" + s + ".5", s + ".", s + ". ", s + ".\n", s + ".;", s + ". 5", s + ".a", s + "..", s + "..5", s + ".5.", s + ".5.5", s + "a", s + "_", s + "e3", s + ".5e3", s + "x0", s + ".5a", s + ".5_", s + ".\"\"", s + ".$1"} {
			wants(t, wrong, noToken(0))
			wants(t, "-"+wrong, noToken(1))
		}
	}
	wants(t, ".5", ".@0 I:5@1 ;@2 E@2")
	wants(t, "a.0", "N:a@0 .@1 I:0@2 ;@3 E@3")
	wants(t, "1 .5", "I:1@0 .@2 I:5@3 ;@4 E@4")
	wants(t, "0 0", "I:0@0 I:0@2 ;@3 E@3")
	wants(t, "1-2", "I:1@0 -@1 I:2@2 ;@3 E@3")
	wants(t, "1\xff", noByte(1))
}

func TestLongNumbers(t *testing.T) {
	for _, digits := range []string{strings.Repeat("1", 41), strings.Repeat("1234567890", 5)[:41], "1" + strings.Repeat("0", 40)} {
		wants(t, digits[:40], alone("I:"+digits[:40], 40))
		wants(t, digits, noToken(0))
		wants(t, digits+".5", noToken(0))
		wants(t, digits[:40]+".5", noToken(0))
		for point := 1; point < 40; point++ {
			s := digits[:point] + "." + digits[point:40]
			wants(t, s, alone("F:"+s, 41))
			wants(t, digits[:point]+"."+digits[point:], noToken(0))
		}
	}
	s := "0." + strings.Repeat("0", 39)
	wants(t, s, alone("F:"+s, 41))
	wants(t, s+"0", noToken(0))
	wants(t, strings.Repeat("1", 1<<16), noToken(0))
}

func TestStrings(t *testing.T) {
	for c := range 256 {
		s := string([]byte{byte(c)})
		if c >= 32 && c <= 126 && c != '"' && c != '\\' {
			wants(t, "\""+s+"\"", alone("S:"+strconv.QuoteToASCII(s), 3))
		} else if c != '"' {
			wants(t, "\""+s+"\"", noToken(0))
			wants(t, " \"a"+s+"b\"", noToken(1))
		}
		pair, says := "\"\\"+s+"\"", map[byte]string{'n': "\n", 't': "\t", 'r': "\r", '\\': "\\", '"': "\""}[byte(c)]
		if says != "" {
			wants(t, pair, alone("S:"+strconv.QuoteToASCII(says), 4))
		} else {
			wants(t, pair, noToken(0))
		}
		for _, digits := range []string{strconv.FormatInt(int64(256+c), 16)[1:], strings.ToUpper(strconv.FormatInt(int64(256+c), 16)[1:])} {
			wants(t, "\"\\x"+digits+"\"", alone("S:"+strconv.QuoteToASCII(s), 6))
		}
	}
	wants(t, "\"\"", alone("S:\"\"", 2))
	wants(t, "\"\\xaB\\xCd\"", alone("S:"+strconv.QuoteToASCII("\xab\xcd"), 10))
	wants(t, "\"\\x411\"", alone("S:\"A1\"", 7))
	wants(t, "\"\\\\n\"", alone("S:"+`"\\n"`, 5))
	wants(t, "\"\\\\\"\"a\"", "S:"+`"\\"`+"@0 S:\"a\"@4 ;@7 E@7")
	wants(t, "\"a\"b", "S:\"a\"@0 N:b@3 ;@4 E@4")
	long := strings.Repeat("a", 1<<16-2)
	wants(t, "\""+long+"\"", alone("S:\""+long+"\"", 1<<16))
}

func TestStringsCut(t *testing.T) {
	whole := "\"a\\n\\t\\r\\\\\\\"\\x4a\\xB0$ // go\""
	wants(t, whole, alone("S:"+strconv.QuoteToASCII("a\n\t\r\\\"J\xb0$ // go"), len(whole)))
	for n := 1; n < len(whole); n++ {
		wants(t, whole[:n], noToken(0))
		wants(t, "a\n\t"+whole[:n]+"\n", noToken(3))
	}
	for _, s := range []string{"\"\\x\"", "\"\\x4\"", "\"\\x4g\"", "\"\\xg4\"", "\"\\x 4\"", "\"\\x4 1\"", "\"\\X41\"", "\"\\x+1\"", "\"\\u0041\"", "\"\\101\"", "\"\\0\"", "\"\\'\"", "\"\\a\"", "\"\\ \"", "\"\\", "\"\\x", "\"\\x4", "\"\\x41", "\"\\\"", "\"a\nb\"", "\"\xc3\xa9\"", "\"'", "\"`"} {
		wants(t, s, noToken(0))
	}
	wants(t, "'a'", noByte(0))
	wants(t, "`a`", noByte(0))
}

func TestDollars(t *testing.T) {
	for n := range 100 {
		digits := strconv.Itoa(n)
		s := "$" + digits
		if n == 0 {
			wants(t, s, noToken(0))
			continue
		}
		wants(t, s, alone("D:"+digits, len(s)))
		wants(t, s+"+", "D:"+digits+"@0 +@"+strconv.Itoa(len(s))+" E@"+strconv.Itoa(len(s)+1))
	}
	for _, s := range []string{"$", "$ ", "$\n", "$ 1", "$0", "$00", "$01", "$001", "$100", "$123", "$999", "$1234", "$1a", "$12a", "$1_", "$99Z", "$a", "$_", "$-1", "$+1", "$.", "$\"\"", "$\xff", "$\x00", "$($)"} {
		wants(t, s, noToken(0))
		wants(t, "$$"+s, noToken(2))
	}
	for s, want := range map[string]string{
		"$$": alone("D:$", 2), "$$$$": "D:$@0 D:$@2 ;@4 E@4", "$$$1": "D:$@0 D:1@2 ;@4 E@4", "$1$2": "D:1@0 D:2@2 ;@4 E@4", "$$1": "D:$@0 I:1@2 ;@3 E@3", "$$a": "D:$@0 N:a@2 ;@3 E@3", "$$100": "D:$@0 I:100@2 ;@5 E@5", "$1.a": "D:1@0 .@2 N:a@3 ;@4 E@4", "$1.5": "D:1@0 .@2 I:5@3 ;@4 E@4",
		"$$$": noToken(2), "$1$": noToken(2), "$$007": noToken(2), "$1\xff": noByte(2),
	} {
		wants(t, s, want)
	}
}
