package read_test

import (
	"strconv"
	"strings"
	"testing"
)

func TestArgs(t *testing.T) {
	for s, want := range map[string]string{
		"a(b);":               "/@4 a@4(b@6)",
		"a ( b ) ;":           "/@4 a@4(b@8)",
		"a(b,c);":             "/@4 a@4(b@6 c@8)",
		"a(b , c,\nd);":       "/@4 a@4(b@6 c@10 d@13)",
		"a(a,a);":             "/@4 a@4(a@6 a@8)",
		"a(b) c;":             "/@4 a@4(b@6) c@9",
		"a(b)c(d);":           "/@4 a@4(b@6) c@8(d@10)",
		"a b(c)d;":            "/@4 a@4 b@6(c@8) d@10",
		"a (b);":              "/@4 a@4(b@7)",
		"a\n(b);":             "/@4 a@4(b@7)",
		"a(b(c));":            "/@4 a@4(b@6(c@8))",
		"a(b(c),d);":          "/@4 a@4(b@6(c@8) d@11)",
		"a(b,c(d));":          "/@4 a@4(b@6 c@8(d@10))",
		"a(b(c(d,e),f),g)h;":  "/@4 a@4(b@6(c@8(d@10 e@12) f@15) g@18) h@20",
		"a(b(c)d);":           noText(10),
		"a(b)|c(d);":          "/@4 a@4(b@6) /@9 c@9(d@11)",
		"prec(left,token);":   "/@4 prec@4(left@9 token@14)",
		"a(b)%prec c{d};":     "/@4 a@4(b@6) %prec c {\"d\"}@16",
		"a();":                noText(6),
		"a( );":               noText(7),
		"a(":                  noText(6),
		"a(;":                 noText(6),
		"a(b":                 noText(7),
		"a(b;":                noText(7),
		"a(b,":                noText(8),
		"a(b,);":              noText(8),
		"a(,b);":              noText(6),
		"a(,);":               noText(6),
		"a(b,,c);":            noText(8),
		"a(b c);":             noText(8),
		"a(b|c);":             noText(7),
		"a(b:c);":             noText(7),
		"a(b%prec c);":        noText(7),
		"a((b));":             noText(6),
		"a(b)(c);":            noText(8),
		"a(b(c)(d));":         noText(10),
		"a(b));":              noText(8),
		"a(b(c);":             noText(10),
		"a(b()):":             noText(8),
		"a(b(c,));":           noText(10),
		"a(b(,c));":           noText(8),
		"a(%left);":           noText(6),
		"a(%%);":              noText(6),
		"a(b%%c);":            noText(7),
		"a({b});":             noText(6),
		"a({)};":              noText(6),
		"a{(}b);":             noText(8),
		"a(b{,}c);":           noText(7),
		"a(b{)};":             noText(7),
		"a(b<c>);":            noText(7),
		"a<b>;":               noText(5),
		"a,b;":                noText(5),
		"(b);":                noText(4),
		"a()|;":               noText(6),
		"a(b)c,d;":            noText(9),
		"a(b)\n,c;":           noText(9),
		"a(b,c(d,e(f,g(h)));": noText(22),
	} {
		if !strings.HasPrefix(want, "fault") {
			want = "e@2 " + want
		}
		wants(t, "%%e:"+s, want)
	}
	for _, many := range []int{1, 2, 3, 60, 61, 62, 1000} {
		var names, told []string
		for i := range many {
			told = append(told, "X"+strconv.Itoa(i)+at(len(strings.Join(names, ","))+6+min(i, 1)))
			names = append(names, "X"+strconv.Itoa(i))
		}
		args := strings.Join(names, ",")
		wants(t, "%%e:a("+args+");", "e@2 /@4 a@4("+strings.Join(told, " ")+")")
		wants(t, "%%e:a("+args+",);", noText(len(args)+7))
		wants(t, "%%e:a("+args, noText(len(args)+6))
	}
}

func TestWordsInOneAnother(t *testing.T) {
	for around := range 61 {
		wants(t, "%%e:"+nested(around)+";", "e@2 /@4 "+nestedAt(around, 4))
		wants(t, "%% e(X): c | "+nested(around)+" {};", "e@3 (X) /@9 c@9 /@13 "+nestedAt(around, 13)+" {\"\"}"+at(16+3*around))
		for left := range around {
			s := "%%e:" + strings.Repeat("a(", around) + "b" + strings.Repeat(")", left)
			wants(t, s, noText(len(s)))
			wants(t, s+";", noText(len(s)))
		}
		wants(t, "%%e:"+nested(around)+");", noText(5+3*around))
	}
}

// TestWordsTooDeep: a word in 61 others is told where it begins, whatever stands behind it.
func TestWordsTooDeep(t *testing.T) {
	for around := 61; around < 200; around++ {
		wants(t, "%%e:"+nested(around)+";", tooDeep(126))
		wants(t, "%%e:"+nested(around), tooDeep(126))
		wants(t, "%% e : | A B "+nested(around)+";", tooDeep(135))
	}
	deepest := strings.Repeat("a(", 61)
	for s, want := range map[string]string{
		"":              noText(126),
		")":             noText(126),
		",":             noText(126),
		"(":             noText(126),
		";":             noText(126),
		"{}":            noText(126),
		"%prec P":       noText(126),
		"%%":            noText(126),
		"b":             tooDeep(126),
		" b":            tooDeep(127),
		"// b\nb":       tooDeep(131),
		"b;":            tooDeep(126),
		"b(":            tooDeep(126),
		"b()":           tooDeep(126),
		"b(c)":          tooDeep(126),
		"b,)":           tooDeep(126),
		"b c":           tooDeep(126),
		"b%%":           tooDeep(126),
		"b{}":           tooDeep(126),
		"b" + deepest:   tooDeep(126),
		"prec":          tooDeep(126),
		"{prec}":        noText(126),
		"b)))));":       tooDeep(126),
		"b = ":          "fault 100@128",
		"b {":           "fault 101@128",
		"b %foo":        "fault 101@128",
		") #":           "fault 100@128",
		"; // b\n; b)#": "fault 100@137",
	} {
		wants(t, "%%e:"+deepest+s, want)
	}
}

// TestDepthIsOfWordsAlone: what is closed again is around nothing any more, and what is no word is in none.
func TestDepthIsOfWordsAlone(t *testing.T) {
	deep, told := nested(60), func(place int) string { return nestedAt(60, place) }
	n := len(deep)
	wants(t, "%%e:"+deep+" "+deep+";", "e@2 /@4 "+told(4)+" "+told(5+n))
	wants(t, "%%e:"+deep+"|"+deep+"{};", "e@2 /@4 "+told(4)+" /"+at(5+n)+" "+told(5+n)+" {\"\"}"+at(6+2*n))
	wants(t, "%%e:"+deep+";f:"+deep+";", "e@2 /@4 "+told(4)+"; f"+at(5+n)+" /"+at(7+n)+" "+told(7+n))
	args := strings.Repeat(nested(59)+",", 100) + "c"
	wants(t, "%%e:a("+args+" "+deep+");", noText(7+len(args)))
	wants(t, "%%e:a("+args+","+deep+");", tooDeep(7+len(args)+120))
	wants(t, "%%e:a("+deep+","+args+");", tooDeep(126))
	wants(t, "%%e:c c c("+nested(59)+","+nested(60)+");", tooDeep(10+len(nested(59))+1+120))
	wants(t, "%%e:"+deep+" "+nested(61)+";", tooDeep(5+n+122))
	wants(t, "%%e:"+deep+"|"+nested(61)+";", tooDeep(5+n+122))
	wants(t, "%%e:"+deep+";f:"+nested(61)+";", tooDeep(7+n+122))
	siblings := strings.Repeat("a(b,c,", 60) + "d" + strings.Repeat(",e)", 60)
	beginsWith(t, "%%e:"+siblings+";", "e@2 /@4 a@4(b@6 c@8 a@10(b@12 ")
	wants(t, "%%e:a("+siblings+");", tooDeep(6+6*59+2))
	wants(t, "%%e:"+strings.Replace(siblings, "d", "d(f)", 1)+";", tooDeep(4+6*60+2))
	params := "X" + strings.Repeat(",X", 100)
	beginsWith(t, "%%e("+params+"):"+strings.Repeat("X ", 100)+"%prec P;", "e@2 (X X ")
}

// TestTooDeepAndNoText: of two faults the one that is met first is told.
func TestTooDeepAndNoText(t *testing.T) {
	tooMany := nested(61)
	for s, want := range map[string]string{
		"%%e:;;e:" + tooMany + ";":                    noText(5),
		"%%e:A,|" + tooMany + ";":                     noText(5),
		"%%e:()" + tooMany + ";":                      noText(4),
		"%%e(" + tooMany + "):;":                      noText(5),
		"%%e:%prec P " + tooMany + ";":                noText(12),
		"%%e:%prec " + tooMany + ";":                  noText(11),
		"%%e:{}" + tooMany + ";":                      noText(6),
		"%%" + tooMany + ":;":                         noText(5),
		tooMany:                                       noText(0),
		"%token " + tooMany + ";%%":                   noText(8),
		"%type <" + tooMany + "> A;%%":                noText(8),
		"%%e:c(d,,e(" + nested(60) + "));":            noText(8),
		"%%e:a() " + tooMany + ";":                    noText(6),
		"%%e:" + tooMany + ";;":                       tooDeep(126),
		"%%e:" + tooMany + ",":                        tooDeep(126),
		"%%e:" + tooMany + ";%%":                      tooDeep(126),
		"%%e:" + tooMany + "%left;":                   tooDeep(126),
		"%%e:" + tooMany + "|" + nested(70) + ";":     tooDeep(126),
		"%%e:" + nested(70) + "|" + tooMany + ";":     tooDeep(126),
		"%%e:" + strings.Repeat("a(", 61) + "(b":      noText(126),
		"%%e:" + strings.Repeat("a(", 61) + "b(":      tooDeep(126),
		"%%e:" + strings.Repeat("a(", 60) + "()":      noText(124),
		"%%e:" + strings.Repeat("a(", 60) + "b,c,,":   noText(128),
		"%%e:" + strings.Repeat("a(", 60) + "b,c(d),": tooDeep(128),
		"%%e:" + strings.Repeat("a(", 60) + "b,c(),d": noText(128),
	} {
		wants(t, s, want)
	}
}
