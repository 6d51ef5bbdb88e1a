package parse_test

import (
	"go/ast"
	"go/parser"
	"go/token"
	"strconv"
	"strings"
	"testing"

	"gristmill/api"
	"gristmill/node"
	"gristmill/parse"
)

// goTree makes the document's tree of Go's own: an oracle of trees and places. Dollars are names there that begin with two D, or a D and a digit.
type goTree struct {
	from int // where the source begins in what Go was given
}

func (g goTree) at(n ast.Node) int { return int(n.Pos()) - 1 - g.from }

func (g goTree) make(kind api.NodeKind, at int, text string, kids ...api.Node) api.Node {
	return api.Node{Kind: kind, At: at, Text: text, Kids: kids}
}

// held is a node where the first of its Kids stands.
func (g goTree) held(kind api.NodeKind, kids []api.Node) api.Node {
	n := api.Node{Kind: kind, Kids: kids}
	if len(kids) > 0 {
		n.At = kids[0].At
	}
	return n
}

func (g goTree) file(f *ast.File) api.Node {
	n := g.make(api.NodeFile, 0, f.Name.Name)
	for _, d := range f.Decls {
		switch d := d.(type) {
		case *ast.GenDecl:
			spec := d.Specs[0].(*ast.TypeSpec)
			n.Kids = append(n.Kids, g.make(api.NodeStruct, g.at(d), spec.Name.Name, g.fields(spec.Type.(*ast.StructType).Fields)...))
		case *ast.FuncDecl:
			var results []api.Node
			if d.Type.Results != nil {
				for _, r := range d.Type.Results.List {
					results = append(results, g.typeOf(r.Type))
				}
			}
			n.Kids = append(n.Kids, g.make(api.NodeFunc, g.at(d), d.Name.Name, g.held(api.NodeParams, g.fields(d.Type.Params)), g.held(api.NodeResults, results), g.statement(d.Body)))
		}
	}
	return n
}

func (g goTree) fields(l *ast.FieldList) []api.Node {
	var out []api.Node
	for _, f := range l.List {
		out = append(out, g.make(api.NodeField, g.at(f.Names[0]), f.Names[0].Name, g.typeOf(f.Type)))
	}
	return out
}

func (g goTree) typeOf(e ast.Expr) api.Node {
	if a, ok := e.(*ast.ArrayType); ok {
		return g.make(api.NodeSlice, g.at(a), "", g.typeOf(a.Elt))
	}
	return g.make(api.NodeType, g.at(e), e.(*ast.Ident).Name)
}

func (g goTree) statements(list []ast.Stmt) []api.Node {
	var out []api.Node
	for _, s := range list {
		if _, ok := s.(*ast.EmptyStmt); !ok {
			out = append(out, g.statement(s))
		}
	}
	return out
}

func (g goTree) statement(s ast.Stmt) api.Node {
	switch s := s.(type) {
	case *ast.BlockStmt:
		return g.make(api.NodeBlock, g.at(s), "", g.statements(s.List)...)
	case *ast.DeclStmt:
		spec := s.Decl.(*ast.GenDecl).Specs[0].(*ast.ValueSpec)
		return g.make(api.NodeVar, g.at(s), spec.Names[0].Name, append([]api.Node{g.typeOf(spec.Type)}, g.expressions(spec.Values)...)...)
	case *ast.AssignStmt:
		n := g.held(api.NodeAssign, append(g.expressions(s.Lhs), g.expressions(s.Rhs)...))
		n.Num = len(s.Lhs)
		if s.Tok == token.DEFINE {
			n.Kind = api.NodeDefine
		}
		return n
	case *ast.IfStmt:
		n := g.make(api.NodeIf, g.at(s), "", g.expression(s.Cond), g.statement(s.Body))
		if s.Else != nil {
			n.Kids = append(n.Kids, g.statement(s.Else))
		}
		return n
	case *ast.LabeledStmt:
		n := g.statement(s.Stmt)
		n.Text, n.At = s.Label.Name, g.at(s)
		return n
	case *ast.ForStmt:
		n := g.make(api.NodeFor, g.at(s), "")
		if s.Cond != nil {
			n.Kids = append(n.Kids, g.expression(s.Cond))
		}
		n.Kids = append(n.Kids, g.statement(s.Body))
		return n
	case *ast.SwitchStmt:
		n := g.make(api.NodeSwitch, g.at(s), "", g.expression(s.Tag))
		for _, c := range s.Body.List {
			c := c.(*ast.CaseClause)
			n.Kids = append(n.Kids, g.make(api.NodeCase, g.at(c), "", append(g.expressions(c.List), g.held(api.NodeBlock, g.statements(c.Body)))...))
		}
		return n
	case *ast.ReturnStmt:
		return g.make(api.NodeReturn, g.at(s), "", g.expressions(s.Results)...)
	case *ast.BranchStmt:
		n := g.make(map[token.Token]api.NodeKind{token.BREAK: api.NodeBreak, token.CONTINUE: api.NodeContinue}[s.Tok], g.at(s), "")
		if s.Label != nil {
			n.Text = s.Label.Name
		}
		return n
	}
	return g.held(api.NodeDo, []api.Node{g.expression(s.(*ast.ExprStmt).X)})
}

func (g goTree) expressions(list []ast.Expr) []api.Node {
	var out []api.Node
	for _, e := range list {
		out = append(out, g.expression(e))
	}
	return out
}

func (g goTree) expression(e ast.Expr) api.Node {
	switch e := e.(type) {
	case *ast.BasicLit:
		if e.Kind == token.STRING {
			s, _ := strconv.Unquote(e.Value)
			return g.make(api.NodeString, g.at(e), s)
		}
		return g.make(map[token.Token]api.NodeKind{token.INT: api.NodeInt, token.FLOAT: api.NodeFloat}[e.Kind], g.at(e), e.Value)
	case *ast.Ident:
		return g.named(e)
	case *ast.ParenExpr:
		n := g.expression(e.X)
		n.At = g.at(e)
		return n
	case *ast.UnaryExpr:
		return g.make(api.NodeUnary, g.at(e), e.Op.String(), g.expression(e.X))
	case *ast.BinaryExpr:
		return g.make(api.NodeBinary, g.at(e), e.Op.String(), g.expression(e.X), g.expression(e.Y))
	case *ast.CallExpr:
		return g.make(api.NodeCall, g.at(e), e.Fun.(*ast.Ident).Name, g.expressions(e.Args)...)
	case *ast.IndexExpr:
		return g.make(api.NodeIndex, g.at(e), "", g.expression(e.X), g.expression(e.Index))
	case *ast.SliceExpr:
		return g.make(api.NodeUpTo, g.at(e), "", g.expression(e.X), g.expression(e.High))
	case *ast.SelectorExpr:
		return g.make(api.NodePart, g.at(e), e.Sel.Name, g.expression(e.X))
	}
	c := e.(*ast.CompositeLit)
	if _, ok := c.Type.(*ast.ArrayType); ok {
		return g.make(api.NodeList, g.at(c), "", append([]api.Node{g.typeOf(c.Type)}, g.expressions(c.Elts)...)...)
	}
	n := g.make(api.NodeMake, g.at(c), c.Type.(*ast.Ident).Name)
	for _, x := range c.Elts {
		kv := x.(*ast.KeyValueExpr)
		n.Kids = append(n.Kids, g.make(api.NodeKey, g.at(kv), kv.Key.(*ast.Ident).Name, g.expression(kv.Value)))
	}
	return n
}

func (g goTree) named(e *ast.Ident) api.Node {
	n := g.make(api.NodeName, g.at(e), e.Name)
	switch {
	case e.Name == "true":
		n.Kind, n.Text, n.Num = api.NodeBool, "", 1
	case e.Name == "false":
		n.Kind, n.Text = api.NodeBool, ""
	case e.Name == "DD":
		n.Kind, n.Text = api.NodeDollar, ""
	case e.Name[0] == 'D':
		n.Kind, n.Text = api.NodeDollar, ""
		n.Num, _ = strconv.Atoi(e.Name[1:])
	}
	return n
}

// byGo asks for the tree of a source that is none but by Go's own parser.
func byGo(t *testing.T, start, s string) {
	t.Helper()
	head, tail, read := "", "", parse.File
	if start == "action" {
		head, tail, read = "package p; func f() { ", "\n}", parse.Action
	}
	f, err := parser.ParseFile(token.NewFileSet(), "", head+strings.ReplaceAll(s, "$", "D")+tail, parser.SkipObjectResolution)
	if err != nil {
		t.Fatalf("%s: Go says %v", short(s), err)
	}
	g := goTree{from: len(head)}
	want := g.file(f)
	if start == "action" {
		want = g.held(api.NodeBlock, want.Kids[0].Kids[2].Kids)
	}
	n, fault := read(s)
	if fault != (api.Fault{}) || spell(n, true) != spell(want, true) || !node.Right(n) {
		t.Errorf("%s: %v %s, not %s", short(s), fault, spell(n, true), spell(want, true))
	}
}

func TestMadeUpSourcesByGo(t *testing.T) {
	w := newWriter(5)
	for n := range 20000 {
		start := []string{"file", "action"}[n%2]
		tokens := w.tokens(start, n%400)
		if start == "file" {
			tokens = slicesWithout(tokens, "$")
		}
		if s := w.spaced(tokens); w.notTooDeep(start, s) {
			byGo(t, start, s)
		}
	}
}

func (w *writer) notTooDeep(start, s string) bool {
	_, fault := map[string]reader{"file": parse.File, "action": parse.Action}[start](s)
	return fault != (api.Fault{Err: api.ErrDeep})
}
