package show_test

import (
	"strings"
	"testing"

	"gristmill/api"
)

func params(kids ...api.Node) api.Node  { return of(api.NodeParams, "", kids...) }
func results(kids ...api.Node) api.Node { return of(api.NodeResults, "", kids...) }

func structure(s string, kids ...api.Node) api.Node { return of(api.NodeStruct, s, kids...) }

// P5.1.
func TestFiles(t *testing.T) {
	isShown(t, files, file(), "package p\n")
	isShown(t, files, of(api.NodeFile, "main"), "package main\n")
	long := strings.Repeat("a", 40)
	isShown(t, files, of(api.NodeFile, long), "package "+long+"\n")
	isShown(t, files, file(structure("T"), function(), structure("U", field("a", typed("T"))), structure("V"), function(tell())),
		"package p\n\ntype T struct {\n}\n\nfunc f() {\n}\n\ntype U struct {\n\ta T\n}\n\ntype V struct {\n}\n\nfunc f() {\n\treturn\n}\n")
	isShown(t, files, file(function(), function(), structure("T")), "package p\n\nfunc f() {\n}\n\nfunc f() {\n}\n\ntype T struct {\n}\n")
}

func TestStructs(t *testing.T) {
	isShown(t, files, file(structure("T")), "package p\n\ntype T struct {\n}\n")
	isShown(t, files, file(structure("T", field("a", typed("int")))), "package p\n\ntype T struct {\n\ta int\n}\n")
	isShown(t, files, file(structure("list", field("a", typed("int")), field("b", slice(typed("T"))), field("list", slice(slice(slice(typed("list"))))), field("a", typed("float64")))),
		"package p\n\ntype list struct {\n\ta int\n\tb []T\n\tlist [][][]list\n\ta float64\n}\n")
}

func TestFunctions(t *testing.T) {
	number, lists := typed("int"), slice(slice(typed("T")))
	for _, p := range []struct {
		params api.Node
		shown  string
	}{
		{params(), "()"},
		{params(field("a", number)), "(a int)"},
		{params(field("a", lists)), "(a [][]T)"},
		{params(field("a", number), field("b", lists)), "(a int, b [][]T)"},
		{params(field("a", number), field("b", number), field("c", typed("bool"))), "(a int, b int, c bool)"},
	} {
		for _, r := range []struct {
			results api.Node
			shown   string
		}{
			{results(), ""},
			{results(number), " int"},
			{results(lists), " [][]T"},
			{results(number, number), " (int, int)"},
			{results(lists, number, typed("string")), " ([][]T, int, string)"},
			{results(number, slice(number)), " (int, []int)"},
		} {
			head := "package p\n\nfunc g" + p.shown + r.shown + " {\n"
			isShown(t, files, file(of(api.NodeFunc, "g", p.params, r.results, block())), head+"}\n")
			isShown(t, files, file(of(api.NodeFunc, "g", p.params, r.results, block(do("f"), block(), tell(name("a"))))), head+"\tf()\n\t{\n\t}\n\treturn a\n}\n")
		}
	}
}
