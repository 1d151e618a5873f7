package tests

import (
	"go/ast"
	"go/parser"
	"go/token"
	"path/filepath"
	"testing"
)

// uses is how often a name stands in a piece of the program, and how often just to be read and left.
func uses(piece ast.Node, name string) (all int, left int) {
	ast.Inspect(piece, func(n ast.Node) bool {
		switch x := n.(type) {
		case *ast.Ident:
			if x.Name == name {
				all++
			}
		case *ast.AssignStmt:
			to, _ := x.Lhs[0].(*ast.Ident)
			from, _ := x.Rhs[0].(*ast.Ident)
			if len(x.Lhs) == 1 && to != nil && from != nil && to.Name == "_" && from.Name == name {
				left++
			}
		}
		return true
	})
	return all, left
}

func functions(t *testing.T) []*ast.FuncDecl {
	t.Helper()
	files, err := filepath.Glob("../impl/*.go")
	if err != nil || len(files) == 0 {
		t.Fatal("the program is not found", err)
	}
	var all []*ast.FuncDecl
	for _, file := range files {
		tree, err := parser.ParseFile(token.NewFileSet(), file, nil, 0)
		if err != nil {
			t.Fatal(err)
		}
		for _, d := range tree.Decls {
			if f, ok := d.(*ast.FuncDecl); ok {
				all = append(all, f)
			}
		}
	}
	return all
}

// checkStandsBeside looks at a table that init fills: no answer may come of it, and yet it has to be read by what the program gives out.
func checkStandsBeside(t *testing.T, table string) {
	t.Helper()
	filled, read := 0, 0
	for _, f := range functions(t) {
		all, left := uses(f.Body, table)
		switch {
		case f.Name.Name == "init":
			filled += all
		case f.Name.IsExported():
			read += left
			if all != left {
				t.Errorf("%s goes on with %s", f.Name.Name, table)
			}
		case all > 0:
			t.Errorf("%s reads %s", f.Name.Name, table)
		}
	}
	if filled == 0 || read == 0 {
		t.Errorf("%s is filled in %d places and read in %d", table, filled, read)
	}
}

func TestReadersStandBesideTheAnswers(t *testing.T) {
	checkStandsBeside(t, "plantReaders")
}

func TestSettlersStandBesideTheAnswers(t *testing.T) {
	checkStandsBeside(t, "settlers")
}

func TestSayersStandBesideTheAnswers(t *testing.T) {
	checkStandsBeside(t, "masterSays")
}

func TestFormsStandBesideTheAnswers(t *testing.T) {
	checkStandsBeside(t, "recForms")
}

func TestGoingWellStandsBesideTheAnswers(t *testing.T) {
	checkStandsBeside(t, "canGoWell")
}
