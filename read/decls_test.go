package read_test

import (
	"strconv"
	"strings"
	"testing"
)

// holdsNone is what each decl is held to that may not have a type.
func holdsNone() []string { return []string{"left", "right", "nonassoc", "start"} }

func TestTextsOfLittle(t *testing.T) {
	for s, want := range map[string]string{
		"%%":                       "",
		" %% ":                     "",
		"// a\n%%\n// b":           "",
		"%token A;%%":              "%token@0 A",
		"%token A;%left B;%%":      "%token@0 A; %left@9 B",
		"%%e:;":                    "e@2 /@4",
		"%%e:;f:;":                 "e@2 /@4; f@5 /@7",
		"%start e;%%e:A;":          "%start@0 e; e@11 /@13 A@13",
		"\n%start e;\n%%\ne: A\n;": "%start@1 e; e@14 /@17 A@17",
	} {
		wants(t, s, want)
	}
	for s, place := range map[string]int{"": 0, " ": 1, "// %%": 5, "// %%\n": 6, ";": 0, ";%%": 0, "%%;": 2, "%%%%": 2, "%% %%": 3, "%% e:; %%": 7, "a": 0, "a%%": 0, "{}": 0, "{}%%": 0, "%%{}": 2, "%% {%%}": 3, "{%%}": 0, "%token A;": 9, "%token A; ": 10, "%token A;// %%": 14, "e:;": 0, "%token A; e:;": 10, ":%%": 0, "%%:": 2, "%%|": 2, "%%(": 2, "%%)": 2, "%%,": 2, "%%<": 2, "%%>": 2} {
		wants(t, s, noText(place))
	}
}

func TestDeclsWithoutAType(t *testing.T) {
	for _, kind := range append(holdsNone(), "token") {
		word, n := "%"+kind, len(kind)+1
		wants(t, word+" A;%%", word+"@0 A")
		wants(t, word+"\tA;\n%%", word+"@0 A")
		wants(t, " "+word+" A B;%%", word+"@1 A B")
		wants(t, word+" A B A token _ type;%%", word+"@0 A B A token _ type")
		wants(t, word+" "+kind+";%%", word+"@0 "+kind)
		wants(t, word+" A;"+word+" B C;%%", word+"@0 A; "+word+at(n+3)+" B C")
		wants(t, word+";%%", noText(n))
		wants(t, word+" ;%%", noText(n+1))
		wants(t, word+"%%", noText(n))
		wants(t, word, noText(n))
		wants(t, word+" A", noText(n+2))
		wants(t, word+" A%%", noText(n+2))
		wants(t, word+" A B "+word+" C;%%", noText(n+5))
		wants(t, word+" A;;%%", noText(n+3))
		wants(t, word+" A,B;%%", noText(n+2))
		wants(t, word+" A B,;%%", noText(n+4))
		wants(t, word+" A {};%%", noText(n+3))
		wants(t, word+" {A};%%", noText(n+1))
		wants(t, word+" {;};%%", noText(n+1))
		wants(t, word+" A {;} %%", noText(n+3))
		wants(t, word+" A(B);%%", noText(n+2))
		wants(t, word+" A B <int>;%%", noText(n+5))
		wants(t, word+" A:;%%", noText(n+2))
		wants(t, word+" A|B;%%", noText(n+2))
		wants(t, word+" A %prec B;%%", noText(n+3))
		wants(t, "%%"+word+" A;", noText(2))
	}
}

func TestDeclsThatMayHaveNoType(t *testing.T) {
	for _, kind := range holdsNone() {
		word, n := "%"+kind, len(kind)+1
		wants(t, word+"<int>A;%%", noText(n))
		wants(t, word+" <int> A;%%", noText(n+1))
		wants(t, word+"<>A;%%", noText(n))
		wants(t, word+"<", noText(n))
		wants(t, word+" A<int>;%%", noText(n+2))
		wants(t, word+" A>;%%", noText(n+2))
	}
}

func TestDeclsWithAType(t *testing.T) {
	for _, kind := range []string{"token", "type"} {
		word, n := "%"+kind, len(kind)+1
		wants(t, word+"<int>A;%%", word+"@0 <int> A")
		wants(t, word+" < int > A B ;%%", word+"@0 <int> A B")
		wants(t, "\n"+word+"<string>A B C;%%", word+"@1 <string> A B C")
		for _, name := range []string{"bool", "float64", "int64", "A", "x", "_", "token", "type", strings.Repeat("n", 40)} {
			wants(t, word+"<"+name+">A;%%", word+"@0 <"+name+"> A")
			wants(t, word+"<int>"+name+";%%", word+"@0 <int> "+name)
		}
		for s, place := range map[string]int{"<int>;%%": 5, "<int>%%": 5, "<int>": 5, "<int>A": 6, "<int>A%%": 6, "<>A;%%": 1, "<;>A;%%": 1, "<%left>A;%%": 1, "<{int}>A;%%": 1, "<int A;%%": 5, "<int;%%": 4, "<int": 4, "<": 1, "<<int>>A;%%": 1, "<int>>A;%%": 5, "<int><int>A;%%": 5, "<int>A<int>;%%": 6, ">A;%%": 0, ">int<A;%%": 0, "<int,bool>A;%%": 4, "<int(a)>A;%%": 4, "<int bool>A;%%": 5, "<int>{A};%%": 5, "<int>A,B;%%": 6, "<int>A B;;%%": 9, "{<}int>A;%%": 0, "<int{>}A;%%": 4, "<int>A{;}%%": 6} {
			wants(t, word+s, noText(n+place))
		}
	}
}

func TestDeclsThatMustHaveAType(t *testing.T) {
	for s, place := range map[string]int{"%type A;%%": 6, "%type;%%": 5, "%type": 5, "%type A": 6, "%type int A;%%": 6, "%type %%": 6, "%type {int} A;%%": 6, "%type (int) A;%%": 6} {
		wants(t, s, noText(place))
	}
}

func TestEachWordWhereADeclBegins(t *testing.T) {
	for _, kind := range words() {
		for _, ahead := range []string{"", " ", "%left P;", "%token <int> N M;\n"} {
			s := ahead + "%" + kind + " <int> A B; %% e: ;"
			told := map[string]string{"": "", " ": "", "%left P;": "%left@0 P; ", "%token <int> N M;\n": "%token@0 <int> N M; "}[ahead]
			rest := "; e" + at(len(s)-4) + " /" + at(len(s)-1)
			switch kind {
			case "prec":
				wants(t, s, noText(len(ahead)))
				wants(t, strings.Replace(s, "<int> A B", "A B", 1), noText(len(ahead)))
				wants(t, strings.Replace(s, "<int> A B", "A", 1), noText(len(ahead)))
			case "token", "type":
				wants(t, s, told+"%"+kind+at(len(ahead))+" <int> A B"+rest)
			default:
				wants(t, s, noText(len(ahead)+len(kind)+2))
			}
			wants(t, ahead+kind+" A;%%", noText(len(ahead)))
			wants(t, ahead+"{"+kind+"} A;%%", noText(len(ahead)))
			wants(t, ahead+"{%"+kind+"} A;%%", noText(len(ahead)))
		}
		wants(t, "%% %"+kind+" A;", noText(3))
		wants(t, "%% e:; %"+kind+" A;", noText(7))
		wants(t, "%% "+kind+": "+kind+";", kind+"@3 /"+at(len(kind)+5)+" "+kind+at(len(kind)+5))
	}
	for _, s := range []string{"%prec A;%%", "%prec", "%prec<int>A;%%", "%prec;%%", "%prec%%"} {
		wants(t, s, noText(0))
	}
}

func TestAllDecls(t *testing.T) {
	wants(t, "%token <int> NUM; %token PLUS MINUS;\n%type <int> e t;\n%left PLUS MINUS;\n%right POW;\n%nonassoc LESS;\n%start e;\n%start f g;\n%%\n",
		"%token@0 <int> NUM; %token@18 PLUS MINUS; %type@37 <int> e t; %left@54 PLUS MINUS; %right@72 POW; %nonassoc@84 LESS; %start@100 e; %start@110 f g")
	wants(t, "%start a;%nonassoc a;%right a;%left a;%type<a>a;%token a;%token<a>a;%%",
		"%start@0 a; %nonassoc@9 a; %right@21 a; %left@30 a; %type@38 <a> a; %token@48 a; %token@57 <a> a")
}

func TestManyDecls(t *testing.T) {
	for _, many := range []int{1, 2, 3, 10, 100, 1000} {
		var s, names, want []string
		for i := range many {
			s = append(s, "%left A"+strconv.Itoa(i)+";")
			want = append(want, "%left"+at(len(strings.Join(s[:i], "\n"))+min(i, 1))+" A"+strconv.Itoa(i))
			names = append(names, "N"+strconv.Itoa(i))
		}
		wants(t, strings.Join(s, "\n")+"%%", strings.Join(want, "; "))
		wants(t, "%token "+strings.Join(names, " ")+";%%", "%token@0 "+strings.Join(names, " "))
		wants(t, "%type <t>"+strings.Join(names, "//\n")+";%%", "%type@0 <t> "+strings.Join(names, " "))
	}
}
