package read_test

import (
	"strconv"
	"strings"
	"testing"
)

func TestTheExample(t *testing.T) {
	wants(t, "%token <int> N; %% l(X): X | l(X) N %prec N { $$ = $2 }; s: ;",
		"%token@0 <int> N; l@19 (X) /@25 X@25 /@29 l@29(X@31) N@34 %prec N {\" $$ = $2 \"}@45; s@57 /@60")
	wants(t, "%% e: (", noText(6))
	wants(t, "%left <int> P;", noText(6))
}

func TestRulesOrdinary(t *testing.T) {
	for s, want := range map[string]string{
		"%%e:A;":                           "e@2 /@4 A@4",
		"%% e : A ;":                       "e@3 /@7 A@7",
		"%%e:A B;":                         "e@2 /@4 A@4 B@6",
		"%%e:A|B;":                         "e@2 /@4 A@4 /@6 B@6",
		"%%e:|A;":                          "e@2 /@4 /@5 A@5",
		"%%e:A|;":                          "e@2 /@4 A@4 /@6",
		"%%e:||;":                          "e@2 /@4 /@5 /@6",
		"%%e:A;f:B;":                       "e@2 /@4 A@4; f@6 /@8 B@8",
		"%%e:A;e:B;":                       "e@2 /@4 A@4; e@6 /@8 B@8",
		"%%e:e PLUS e{$$ = $1 + $3}|NUM;":  "e@2 /@4 e@4 PLUS@6 e@11 {\"$$ = $1 + $3\"}@13 /@27 NUM@27",
		"%%\n\te\n:\tA\n|\tB\n;\n":         "e@4 /@8 A@8 /@12 B@12",
		"%% e: A // B\n | C // ; f: D\n ;": "e@3 /@6 A@6 /@16 C@16",
		"%%prec:token%prec left{type};":    "prec@2 /@7 token@7 %prec left {\"type\"}@23",
	} {
		wants(t, s, want)
	}
}

func TestRulesThatAreNone(t *testing.T) {
	for s, place := range map[string]int{
		"e": 1, "e ": 2, "e;": 1, "e ;": 2, "e A;": 2, "e|A;": 1, "e,f:;": 1, "e{}:;": 1, "e{:}A;": 1, "e%prec A:;": 1, "e%%": 1, "e f:A;": 2, "e<int>:A;": 1, "e::A;": 2, ":A;": 0, ";": 0, "e:A;;": 4, "e:A;|B;": 4, "e:A;f": 5, "e:A;f:": 6, "e:A;%%": 4, "e:A;%token B;": 4, "e:A;{}": 4, "{e}:A;": 0, "%left:A;": 0, "(e):A;": 0, "%prec:;": 0,
		"e:": 2, "e: ": 3, "e:A": 3, "e:A ": 4, "e:A|": 4, "e:A|B": 5, "e:{}": 4, "e:%prec A": 9, "e:A%%": 3, "e:%%": 2, "e:A f:B;": 5, "e:A:B;": 3, "e:A,B;": 3, "e:,;": 2, "e:A<B>;": 3, "e:<;": 2, "e:>;": 2, "e:A>;": 3, "e:A)": 3, "e:);": 2, "e:(A);": 2, "e:A (": 5, "e:A %left B;": 4, "e:%start;": 2, "e:A{}{;}": 5, "e:{:};;": 6,
	} {
		wants(t, "%%"+s, noText(place+2))
		wants(t, "%left P Q;%% f: ; "+s, noText(place+18))
	}
}

func TestParams(t *testing.T) {
	for s, want := range map[string]string{
		"e(X):;":                       "e@2 (X) /@7",
		"e(X,Y):;":                     "e@2 (X Y) /@9",
		"e ( X , Y , Z ) : ;":          "e@2 (X Y Z) /@20",
		"e(X,X):;":                     "e@2 (X X) /@9",
		"e(e):e(e);":                   "e@2 (e) /@7 e@7(e@9)",
		"e(X):X|Y;f(Y):;g:;":           "e@2 (X) /@7 X@7 /@9 Y@9; f@11 (Y) /@16; g@17 /@19",
		"prec(token,left):;":           "prec@2 (token left) /@19",
		"e(X){}:;":                     noText(6),
		"e():;":                        noText(4),
		"e(":                           noText(4),
		"e( ":                          noText(5),
		"e(X":                          noText(5),
		"e(X:;":                        noText(5),
		"e(X;":                         noText(5),
		"e(X,":                         noText(6),
		"e(X,):;":                      noText(6),
		"e(,X):;":                      noText(4),
		"e(X,,Y):;":                    noText(6),
		"e(X Y):;":                     noText(6),
		"e(X|Y):;":                     noText(5),
		"e(X;Y):;":                     noText(5),
		"e((X)):;":                     noText(4),
		"e(X(Y)):;":                    noText(5),
		"e(X,Y(Z)):;":                  noText(7),
		"e({X}):;":                     noText(4),
		"e({)}):;":                     noText(4),
		"e(X{,}Y):;":                   noText(5),
		"e(X{)}:;":                     noText(5),
		"e(%token):;":                  noText(4),
		"e(X)(Y):;":                    noText(6),
		"e(X):;(Y):;":                  noText(8),
		"e(X)":                         noText(6),
		"e(X);":                        noText(6),
		"e(X)X:;":                      noText(6),
		"e<X>:;":                       noText(3),
		"e{(}X):;":                     noText(3),
		"e(%%):;":                      noText(4),
		"e(X)%%":                       noText(6),
		"e):;":                         noText(3),
		"e(X)):;":                      noText(6),
		"e(X):Y(X)|X(Y(X),Z,X),X;":     noText(23),
		"e(X,\nY // Z)\n,Z):\nX(Y,Z);": "e@2 (X Y Z) /@20 X@20(Y@22 Z@24)",
	} {
		wants(t, "%%"+s, want)
	}
	for _, many := range []int{1, 2, 3, 60, 61, 62, 1000} {
		var names []string
		for i := range many {
			names = append(names, "X"+strconv.Itoa(i))
		}
		params := strings.Join(names, ",")
		wants(t, "%%e("+params+"):;", "e@2 ("+strings.Join(names, " ")+") /"+at(len(params)+6))
		wants(t, "%%e("+params+",):;", noText(len(params)+5))
	}
}

// piece is one of what an alternative may have, as it stands, and as it is told at a place.
type piece struct {
	text string
	told func(place int) string
}

func pieces() []piece {
	return []piece{
		{"A l(B) c", func(p int) string { return " A" + at(p) + " l" + at(p+2) + "(B" + at(p+4) + ") c" + at(p+7) }},
		{"%prec P", func(int) string { return " %prec P" }},
		{"{ a{} }", func(p int) string { return " {\" a{} \"}" + at(p+1) }},
	}
}

// TestAltsOfEachCombination has each alternative as the first, a middle and the last one.
func TestAltsOfEachCombination(t *testing.T) {
	for has := range 8 {
		var texts []string
		told := func(int) string { return "" }
		length := 0
		for i, piece := range pieces() {
			if has>>i&1 == 0 {
				continue
			}
			before, from := told, length
			told = func(place int) string { return before(place) + piece.told(place+from) }
			texts = append(texts, piece.text)
			length += len(piece.text) + 1
		}
		alt := strings.Join(texts, " ")
		one := func(place int) string { return " /" + at(place) + told(place) }
		n := len(alt)
		wants(t, "%%e:"+alt+";", "e@2"+one(4))
		wants(t, "%%e:"+alt+"|"+alt+"|"+alt+";", "e@2"+one(4)+one(5+n)+one(6+2*n))
		wants(t, "%%e:A|"+alt+"|;", "e@2 /@4 A@4"+one(6)+" /"+at(7+n))
		wants(t, "%%e:"+alt+";f:"+alt+";", "e@2"+one(4)+"; f"+at(5+n)+one(7+n))
		wants(t, "%%e:"+alt, noText(4+n))
	}
}

// TestAltsInAnotherOrder has all rows of up to four words, %prec and actions: the first one that stands behind what must stand behind it is refused.
func TestAltsInAnotherOrder(t *testing.T) {
	rows := [][]int{{}}
	for range 4 {
		for _, row := range rows {
			for piece := range 3 {
				rows = append(rows, append(append([]int{}, row...), piece))
			}
		}
	}
	for _, row := range rows {
		s, fault, last := "%%e:", "", -1
		for _, piece := range row {
			if fault == "" && (piece < last || piece == last && piece > 0) {
				fault = noText(len(s))
			}
			last = piece
			s += []string{"A ", "%prec P ", "{a} "}[piece]
		}
		if fault != "" {
			wants(t, s+";", fault)
			wants(t, s+"|;", fault)
		} else {
			wants(t, s, noText(len(s)))
		}
	}
}

func TestPrec(t *testing.T) {
	for s, want := range map[string]string{
		"%prec P;":              "/@4 %prec P",
		"%prec prec;":           "/@4 %prec prec",
		"A%prec P{};":           "/@4 A@4 %prec P {\"\"}@13",
		"A %prec P|%prec Q;":    "/@4 A@4 %prec P /@14 %prec Q",
		"A(B,C)%prec P;":        "/@4 A@4(B@6 C@8) %prec P",
		"%prec;":                noText(9),
		"%prec":                 noText(9),
		"%prec|":                noText(9),
		"%prec{}":               noText(9),
		"%prec{P};":             noText(9),
		"%prec %prec P;":        noText(10),
		"%prec P %prec Q;":      noText(12),
		"%prec P Q;":            noText(12),
		"%prec P(Q);":           noText(11),
		"%prec (P);":            noText(10),
		"%prec <P>;":            noText(10),
		"%prec P,Q;":            noText(11),
		"%prec %left;":          noText(10),
		"%prec %%":              noText(10),
		"%prec P{}%prec Q;":     noText(13),
		"%prec P{};":            "/@4 %prec P {\"\"}@12",
		"prec P;":               "/@4 prec@4 P@9",
		"{prec}P;":              noText(10),
		"A(%prec P);":           noText(6),
		"A(B %prec P);":         noText(8),
		"%left P;":              noText(4),
		"%token P;":             noText(4),
		"A %nonassoc P;":        noText(6),
		"A %prec P %left Q;":    noText(14),
		"A {%prec P};":          "/@4 A@4 {\"%prec P\"}@7",
		"A //\n%prec//\nP//\n;": "/@4 A@4 %prec P",
	} {
		if !strings.HasPrefix(want, "fault") {
			want = "e@2 " + want
		}
		wants(t, "%%e:"+s, want)
	}
}

func TestActions(t *testing.T) {
	for _, text := range []string{"", " ", ";", "|", "%%", ":", "(", ")", ",", "<", ">", "prec", "%prec P", "token", "a", "$$ = $1", "\n\t$$ = f($1, \"}\")\n", "{}", "{{}{}}", "\"}\"", "// }\n", "\xff\x00", "caf\u00e9", " if a { b() } // \"\n", strings.Repeat("x", 1000)} {
		told := "{" + strconv.QuoteToASCII(text) + "}"
		n := len(text) + 2
		wants(t, "%%e:{"+text+"};", "e@2 /@4 "+told+"@5")
		wants(t, "%%e:A {"+text+"}|{"+text+"}\n;", "e@2 /@4 A@4 "+told+"@7 /"+at(7+n)+" "+told+at(8+n))
		wants(t, "%%e:%prec P{"+text+"};f:;", "e@2 /@4 %prec P "+told+"@12; f"+at(12+n)+" /"+at(14+n))
		wants(t, "%%e: // c\n {"+text+"} // c\n ;", "e@2 /@11 "+told+"@12")
		wants(t, "%%e:{"+text+"}{"+text+"};", noText(4+n))
		wants(t, "%%e:{"+text+"}A;", noText(4+n))
		wants(t, "%%e:{"+text+"}(A);", noText(4+n))
		wants(t, "%%e:{"+text+"}%prec P;", noText(4+n))
		wants(t, "%%e:A({"+text+"});", noText(6))
		wants(t, "%%e:A(B{"+text+"});", noText(7))
		wants(t, "{"+text+"}%%", noText(0))
		wants(t, "%%{"+text+"}", noText(2))
		wants(t, "%%e:;{"+text+"}", noText(5))
		wants(t, "%token A{"+text+"}%%", noText(8))
	}
}

func TestManyRulesAndAlts(t *testing.T) {
	for _, many := range []int{1, 2, 3, 10, 100, 1000} {
		rules, told := "%%", []string{}
		alts, want := "%%e:", "e@2"
		wordsOf, told2 := "%%e:", "e@2 /@4"
		for i := range many {
			n := strconv.Itoa(i)
			told = append(told, "r"+n+at(len(rules))+" (X) /"+at(len(rules)+len(n)+5)+" W"+at(len(rules)+len(n)+5))
			rules += "r" + n + "(X):W;"
			want += " /" + at(len(alts)) + " A" + n + at(len(alts))
			alts += "A" + n + "|"
			told2 += " W" + n + at(len(wordsOf))
			wordsOf += "W" + n + " "
		}
		wants(t, rules, strings.Join(told, "; "))
		wants(t, alts+";", want+" /"+at(len(alts)))
		wants(t, wordsOf+";", told2)
	}
}
