package write_test

import (
	"strings"
	"testing"

	"gristmill/api"
)

func kinds() []string { return strings.Fields("token type left right nonassoc start") }

// noKinds are none of a Decl's.
func noKinds() []string {
	out := []string{"", " ", "prec", "%prec", "Token", "TOKEN", "tok", "int", "name", "%", "%%", "token;", "token\x00", "\xff", "union", "precedence", "token type", strings.Repeat("token", 100)}
	for _, kind := range kinds() {
		out = append(out, "%"+kind, " "+kind, kind+" ", kind+"\n", kind[1:], kind[:len(kind)-1], kind+"s", strings.ToUpper(kind), kind+kind)
	}
	return out
}

// mayHave tells whether a Decl of a kind may have a type, and whether it must.
func mayHave(kind string) (may, must bool) {
	return kind == "token" || kind == "type", kind == "type"
}

func TestTheEmptyText(t *testing.T) {
	isWritten(t, api.Text{}, "%%\n")
	isWritten(t, api.Text{Decls: []api.Decl{}, Rules: []api.Rule{}}, "%%\n")
	isWritten(t, api.Text{Decls: make([]api.Decl, 0, 7), Rules: make([]api.Rule, 0, 7)}, "%%\n")
}

func TestDeclsOfEachKind(t *testing.T) {
	for x, want := range map[*api.Decl]string{
		{Kind: "token", Names: []string{"A"}}:                           "%token A;\n%%\n",
		{Kind: "token", Names: []string{"A", "B"}}:                      "%token A B;\n%%\n",
		{Kind: "token", Type: "int", Names: []string{"A"}}:              "%token <int> A;\n%%\n",
		{Kind: "token", Type: "int", Names: []string{"A", "B", "A"}}:    "%token <int> A B A;\n%%\n",
		{Kind: "type", Type: "int", Names: []string{"e"}}:               "%type <int> e;\n%%\n",
		{Kind: "type", Type: "string", Names: []string{"e", "f", "g"}}:  "%type <string> e f g;\n%%\n",
		{Kind: "left", Names: []string{"A"}}:                            "%left A;\n%%\n",
		{Kind: "left", Names: []string{"A", "B"}}:                       "%left A B;\n%%\n",
		{Kind: "right", Names: []string{"A"}}:                           "%right A;\n%%\n",
		{Kind: "right", Names: []string{"A", "B"}}:                      "%right A B;\n%%\n",
		{Kind: "nonassoc", Names: []string{"A"}}:                        "%nonassoc A;\n%%\n",
		{Kind: "nonassoc", Names: []string{"A", "B"}}:                   "%nonassoc A B;\n%%\n",
		{Kind: "start", Names: []string{"A"}}:                           "%start A;\n%%\n",
		{Kind: "start", Names: []string{"A", "B"}}:                      "%start A B;\n%%\n",
		{Kind: "start", Names: []string{"start"}}:                       "%start start;\n%%\n",
		{Kind: "token", Type: "token", Names: []string{"token", "_"}}:   "%token <token> token _;\n%%\n",
		{Kind: "type", Type: "_", Names: []string{"prec", "x9", "Z_0"}}: "%type <_> prec x9 Z_0;\n%%\n",
	} {
		isWritten(t, declared(*x), want)
	}
}

func TestDeclsWithATypeAndWithout(t *testing.T) {
	for _, kind := range kinds() {
		may, must := mayHave(kind)
		for _, names := range [][]string{{"A"}, {"A", "B"}, {"A", "B", "C", "A"}} {
			row := strings.Join(names, " ") + ";\n%%\n"
			if bare := declared(decl(kind, "", names...)); must {
				isRefused(t, bare)
			} else {
				isWritten(t, bare, "%"+kind+" "+row)
			}
			for _, of := range append(someNames(), "int", "bool", "string", "float64", "T") {
				if typed := declared(decl(kind, of, names...)); may {
					isWritten(t, typed, "%"+kind+" <"+of+"> "+row)
				} else {
					isRefused(t, typed)
				}
			}
			for _, of := range noNames() {
				if of != "" {
					isRefused(t, declared(decl(kind, of, names...)))
				}
			}
		}
	}
}

func TestDeclsOfOtherKinds(t *testing.T) {
	for _, kind := range noKinds() {
		for _, of := range []string{"", "int", "-"} {
			isRefused(t, declared(decl(kind, of, "A")))
			isRefused(t, declared(decl(kind, of)))
			isRefused(t, declared(decl("token", "", "A"), decl(kind, of, "A")))
			isRefused(t, declared(decl(kind, of, "A"), decl("left", "", "A")))
		}
	}
}

func TestDeclsOfNoNames(t *testing.T) {
	for _, kind := range kinds() {
		for _, of := range []string{"", "int", "-"} {
			isRefused(t, declared(decl(kind, of)))
			isRefused(t, declared(api.Decl{Kind: kind, Type: of, Names: make([]string, 0, 3)}))
			isRefused(t, declared(decl("start", "", "e"), decl(kind, of)))
			isRefused(t, declared(decl(kind, of), decl("start", "", "e")))
		}
	}
	isRefused(t, declared(api.Decl{}))
	isRefused(t, declared(api.Decl{Names: []string{"A"}}))
}

func TestDeclsOfNamesThatAreNone(t *testing.T) {
	for _, kind := range kinds() {
		of := ""
		if _, must := mayHave(kind); must {
			of = "int"
		}
		for _, name := range noNames() {
			for _, names := range [][]string{{name}, {name, "A"}, {"A", name}, {"A", name, "B"}, {name, name}} {
				isRefused(t, declared(decl(kind, of, names...)))
			}
		}
		for _, name := range someNames() {
			for _, names := range [][]string{{name}, {name, "A"}, {"A", name}, {"A", name, "B"}, {name, name}} {
				isWritten(t, declared(decl(kind, of, names...)), bookText(declared(decl(kind, of, names...))))
			}
		}
	}
}

func TestManyDecls(t *testing.T) {
	isWritten(t, declared(decl("token", "int", "NUM"), decl("token", "", "PLUS", "MINUS"), decl("type", "int", "e", "t"), decl("left", "", "PLUS", "MINUS"), decl("right", "", "POW"), decl("nonassoc", "", "LESS"), decl("start", "", "e"), decl("start", "", "e")),
		"%token <int> NUM;\n%token PLUS MINUS;\n%type <int> e t;\n%left PLUS MINUS;\n%right POW;\n%nonassoc LESS;\n%start e;\n%start e;\n%%\n")
	isWritten(t, declared(decl("start", "", "b"), decl("left", "", "b"), decl("left", "", "a")), "%start b;\n%left b;\n%left a;\n%%\n")
	for _, many := range []int{2, 3, 10, 100, 1000} {
		var decls []api.Decl
		for range many {
			decls = append(decls, decl("right", "", "A", "B"), decl("type", "t", "e"))
		}
		isWritten(t, declared(decls...), strings.Repeat("%right A B;\n%type <t> e;\n", many)+"%%\n")
		names := strings.Fields(strings.Repeat("A ", many))
		isWritten(t, declared(decl("token", "", names...)), "%token"+strings.Repeat(" A", many)+";\n%%\n")
		decls[len(decls)-1].Names = nil
		isRefused(t, declared(decls...))
		names[len(names)-1] = ""
		isRefused(t, declared(decl("token", "", names...)))
	}
}
