package check_test

import (
	"go/ast"
	"go/parser"
	"go/token"
	"go/types"
	"testing"

	"gristmill/api"
	"gristmill/show"
)

// shown is a tree's source.
func shown(t *testing.T, n api.Node) string {
	t.Helper()
	s, e := show.File(n)
	if e != api.OK {
		t.Fatalf("not shown: %v", e)
	}
	return s
}

// byGo is what Go has against a source.
func byGo(s string) error {
	set := token.NewFileSet()
	f, err := parser.ParseFile(set, "p.go", s, parser.SkipObjectResolution)
	if err != nil {
		return err
	}
	_, err = (&types.Config{}).Check("p", set, []*ast.File{f}, nil)
	return err
}
