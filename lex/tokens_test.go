package lex_test

import (
	"strconv"
	"strings"
	"testing"
)

func TestTokensOrdinary(t *testing.T) {
	for s, want := range map[string]string{
		"":                "E@0",
		" ":               "E@1",
		"\t\n\r ":         "E@4",
		"\n\n":            "E@2",
		"//":              "E@2",
		"// a":            "E@4",
		"// a\n":          "E@5",
		"%%":              "%%@0 E@2",
		"%token <int> N;": "W:token@0 <@7 N:int@8 >@11 N:N@13 ;@14 E@15",
		"%token <int> N; %% e: N { f(\"}\") // }\n}": "W:token@0 <@7 N:int@8 >@11 N:N@13 ;@14 %%@16 N:e@19 :@20 N:N@22 A:\" f(\\\"}\\\") // }\\n\"@24 E@39",
		"%left PLUS MINUS;\n%right POW;\n":           "W:left@0 N:PLUS@6 N:MINUS@11 ;@16 W:right@18 N:POW@25 ;@28 E@30",
		"e:e PLUS e{$$ = $1 + $3}|NUM;":              "N:e@0 :@1 N:e@2 N:PLUS@4 N:e@9 A:\"$$ = $1 + $3\"@10 |@24 N:NUM@25 ;@28 E@29",
		"l(X):X|l(X)N%prec N{$$=$2};s:;":             "N:l@0 (@1 N:X@2 )@3 :@4 N:X@5 |@6 N:l@7 (@8 N:X@9 )@10 N:N@11 W:prec@12 N:N@18 A:\"$$=$2\"@19 ;@26 N:s@27 :@28 ;@29 E@30",
		"%start s;%%s:f(g(A,B),C);":                  "W:start@0 N:s@7 ;@8 %%@9 N:s@11 :@12 N:f@13 (@14 N:g@15 (@16 N:A@17 ,@18 N:B@19 )@20 ,@21 N:C@22 )@23 ;@24 E@25",
		"%type<int>a b;%nonassoc C;":                 "W:type@0 <@5 N:int@6 >@9 N:a@10 N:b@12 ;@13 W:nonassoc@14 N:C@24 ;@25 E@26",
		";;||::":                                     ";@0 ;@1 |@2 |@3 :@4 :@5 E@6",
		"<><<>>":                                     "<@0 >@1 <@2 <@3 >@4 >@5 E@6",
		"{}{}":                                       "A:\"\"@0 A:\"\"@2 E@4",
		"a{}b{}":                                     "N:a@0 A:\"\"@1 N:b@3 A:\"\"@4 E@6",
		"_ __ _1 a_":                                 "N:_@0 N:__@2 N:_1@5 N:a_@8 E@10",
		"token %token tokens":                        "N:token@0 W:token@6 N:tokens@13 E@19",
	} {
		wants(t, s, want)
	}
}

func TestEachByteAlone(t *testing.T) {
	for c := range 256 {
		s, want := oneByte(c), noByte(0)
		switch {
		case isBlank(c):
			want = "E@1"
		case isLetter(c):
			want = alone("N:"+s, 1)
		case c == '%' || c == '{':
			want = noToken(0)
		case isSign(c):
			want = alone(s, 1)
		}
		wants(t, s, want)
	}
}

// behind is what is told of a token's source that ends ahead of a byte which is no letter and no digit.
func behind(token string, at, c int) string {
	end := strconv.Itoa(at + 1)
	switch {
	case isBlank(c):
		return token + "@0 E@" + end
	case isSign(c):
		return token + "@0 " + oneByte(c) + "@" + strconv.Itoa(at) + " E@" + end
	case c == '%' || c == '{':
		return noToken(at)
	}
	return noByte(at)
}

func TestEachByteBehindAName(t *testing.T) {
	for c := range 256 {
		s := "a" + oneByte(c)
		if isLetter(c) || isDigit(c) {
			wants(t, s, alone("N:"+s, 2))
			wants(t, s+"a1", alone("N:"+s+"a1", 4))
		} else {
			wants(t, s, behind("N:a", 1, c))
		}
	}
}

func TestEachByteBehindAPercent(t *testing.T) {
	for c := range 256 {
		s, want := "%"+oneByte(c), noToken(0)
		if c == '%' {
			want = alone("%%", 2)
		}
		wants(t, s, want)
		if c != 't' && c != '%' {
			wants(t, s+"oken", noToken(0))
			wants(t, s+"token", noToken(0))
			wants(t, s+"%token", noToken(0))
		}
	}
}

func TestEachByteBehindAWordAndASign(t *testing.T) {
	for c := range 256 {
		s := oneByte(c)
		if isLetter(c) || isDigit(c) {
			wants(t, "%left"+s, noToken(0))
			wants(t, "%"+s+"left", noToken(0))
		} else {
			wants(t, "%left"+s, behind("W:left", 5, c))
		}
		if isLetter(c) {
			wants(t, "%%"+s, "%%@0 N:"+s+"@2 E@3")
			wants(t, ";"+s, ";@0 N:"+s+"@1 E@2")
		} else {
			wants(t, "%%"+s, behind("%%", 2, c))
			wants(t, ";"+s, behind(";", 1, c))
		}
	}
}

func TestEachByteBehindASlash(t *testing.T) {
	for c := range 256 {
		s, want := "/"+oneByte(c), noByte(0)
		if c == '/' {
			want = "E@2"
		}
		wants(t, s, want)
		wants(t, s+"/", strings.ReplaceAll(want, "E@2", "E@3"))
	}
}

func TestEachByteWithinAComment(t *testing.T) {
	for c := range 256 {
		s := "//" + oneByte(c)
		wants(t, s, "E@3")
		wants(t, s+"\na", "N:a@4 E@5")
		if c == '\n' {
			wants(t, s+"a", "N:a@3 E@4")
		} else {
			wants(t, s+"a", "E@4")
			wants(t, s+"#{\"%\n", "E@8")
		}
	}
}

func TestWords(t *testing.T) {
	for _, w := range words() {
		n := len(w) + 1
		wants(t, "%"+w, alone("W:"+w, n))
		wants(t, w, alone("N:"+w, n-1))
		wants(t, " %"+w+" ", "W:"+w+"@1 E@"+strconv.Itoa(n+2))
		for cut := range w {
			wants(t, "%"+w[:cut], noToken(0))
			wants(t, "%"+w[:cut]+" "+w[cut:], noToken(0))
			wants(t, "%"+w[:cut]+w[cut+1:], noToken(0))
			if cut > 0 {
				wants(t, "%"+w[cut:], noToken(0))
			}
			wants(t, "%"+w[:cut]+strings.ToUpper(w[cut:]), noToken(0))
		}
		for _, more := range []string{"a", "z", "A", "Z", "_", "0", "9"} {
			wants(t, "%"+w+more, noToken(0))
			wants(t, "%"+more+w, noToken(0))
		}
		for _, other := range words() {
			wants(t, "%"+w+other, noToken(0))
			wants(t, "%"+w+"%"+other, "W:"+w+"@0 W:"+other+"@"+strconv.Itoa(n)+" E@"+strconv.Itoa(n+len(other)+1))
		}
		wants(t, "%%"+w, "%%@0 N:"+w+"@2 E@"+strconv.Itoa(n+1))
		wants(t, "%%%"+w, "%%@0 W:"+w+"@2 E@"+strconv.Itoa(n+2))
		wants(t, "%%%%"+w, "%%@0 %%@2 N:"+w+"@4 E@"+strconv.Itoa(n+3))
		wants(t, "%"+w+"%%", "W:"+w+"@0 %%@"+strconv.Itoa(n)+" E@"+strconv.Itoa(n+2))
		wants(t, "% "+w, noToken(0))
		wants(t, "% %"+w, noToken(0))
		wants(t, "a%"+w+"(", "N:a@0 W:"+w+"@1 (@"+strconv.Itoa(n+1)+" E@"+strconv.Itoa(n+2))
	}
}

func TestWordsThatAreNone(t *testing.T) {
	for _, w := range strings.Fields("foo e union union1 expect tokens tok types assoc non associativity binary precedence nterm empty start_ leftright a A _ 0 1 9 1token token1 to_ken name action int bool string float64 define if error code") {
		wants(t, "%"+w, noToken(0))
		wants(t, "a %"+w+" b", noToken(2))
		wants(t, "%%"+" %"+w+";", noToken(3))
	}
	wants(t, "%", noToken(0))
	wants(t, "%%%", noToken(2))
	wants(t, "%{%}", noToken(0))
	wants(t, "%//", noToken(0))
	wants(t, "%"+strings.Repeat("a", 40), noToken(0))
	wants(t, "%"+strings.Repeat("token", 13000), noToken(0))
}

func TestSigns(t *testing.T) {
	for _, a := range signs() {
		wants(t, a, alone(a, len(a)))
		for _, b := range signs() {
			n := strconv.Itoa(len(a) + len(b))
			wants(t, a+b, a+"@0 "+b+"@"+strconv.Itoa(len(a))+" E@"+n)
			wants(t, a+"a"+b, a+"@0 N:a@"+strconv.Itoa(len(a))+" "+b+"@"+strconv.Itoa(len(a)+1)+" E@"+strconv.Itoa(len(a)+len(b)+1))
			wants(t, a+"{}"+b, a+"@0 A:\"\"@"+strconv.Itoa(len(a))+" "+b+"@"+strconv.Itoa(len(a)+2)+" E@"+strconv.Itoa(len(a)+len(b)+2))
		}
	}
	for _, s := range strings.Fields("= + - * [ ] } . ! & ? @ # $ ~ ^ ' ` \" \\ / 0 1 5 9 == =: -> [] .. ... && /* */ /a} }{ }} 1a 0x1 $$ $1 'a' \"a\"") {
		wants(t, s, noByte(0))
		wants(t, "a "+s, noByte(2))
		wants(t, ";"+s, noByte(1))
		wants(t, "{}"+s, noByte(2))
	}
}

func TestNamesOfFortyBytes(t *testing.T) {
	for _, first := range []string{"a", "Z", "_"} {
		for _, more := range []string{"a", "z", "A", "Z", "_", "0", "9"} {
			for n := 1; n <= 40; n++ {
				s := first + strings.Repeat(more, n-1)
				wants(t, s, alone("N:"+s, n))
			}
			forty := first + strings.Repeat(more, 39)
			for _, s := range []string{forty + "a", forty + "_", forty + "0", forty + "00", forty + forty} {
				wants(t, s, noToken(0))
				wants(t, " "+s+" ", noToken(1))
				wants(t, "a:"+s+"=", noToken(2))
				wants(t, "{}"+s, noToken(2))
			}
			for _, tail := range append(blanks(), "//"+more) {
				wants(t, forty+tail, "N:"+forty+"@0 E@"+strconv.Itoa(40+len(tail)))
			}
			wants(t, forty+";", "N:"+forty+"@0 ;@40 E@41")
			wants(t, forty+"{}", "N:"+forty+"@0 A:\"\"@40 E@42")
			wants(t, forty+"%%"+forty, "N:"+forty+"@0 %%@40 N:"+forty+"@42 E@82")
			wants(t, forty+" "+forty, "N:"+forty+"@0 N:"+forty+"@41 E@81")
		}
	}
}

func TestBlanksAndComments(t *testing.T) {
	between := append(blanks(), "", "  ", "\r\n", "\n\n\n", " \t\r\n ", "//\n", "// a\n", "//a{\"%\n", "// } \\\n\t", "\n// a\n// b\n", "//\n//\n//\n", "/// a ///\n", "// /* \r\n ", "//\x00\x80\xff\n", " // caf\u00e9 \u2028\n\n")
	for _, ahead := range between {
		for _, gap := range between {
			for _, tail := range append(between, "//", "// a", "  // {\"", "//\n//", "///") {
				a, b := len(ahead), len(ahead)+6+len(gap)
				s := ahead + "%token" + gap + ";" + tail
				wants(t, s, "W:token@"+strconv.Itoa(a)+" ;@"+strconv.Itoa(b)+" E@"+strconv.Itoa(b+1+len(tail)))
				s = ahead + "{ a }" + gap + "%%" + tail
				wants(t, s, "A:\" a \"@"+strconv.Itoa(a)+" %%@"+strconv.Itoa(b-1)+" E@"+strconv.Itoa(b+1+len(tail)))
			}
		}
	}
	for s, want := range map[string]string{
		"a//b\nc": "N:a@0 N:c@5 E@6", "a//\\\nc": "N:a@0 N:c@5 E@6", "a//b\rc\nd": "N:a@0 N:d@7 E@8", "a//{\n}": noByte(5), "a//\"\n\"": noByte(5), "//a//b\nc//": "N:c@7 E@10", "%left//x\n": "W:left@0 E@9", "%%//x": "%%@0 E@5", "{}//{}": "A:\"\"@0 E@6", "a//{}\n{}": "N:a@0 A:\"\"@6 E@8",
		"/": noByte(0), "a/": noByte(1), "/a": noByte(0), "/ /": noByte(0), "/\n/": noByte(0), "a / b": noByte(2), "/*a*/": noByte(0), "a/b//c": noByte(1), "//\n/": noByte(3), "//\n/ /": noByte(3), "\\//": noByte(0),
	} {
		wants(t, s, want)
	}
}
