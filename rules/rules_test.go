// Package rules has tests of what holds in all packages alike: which ones there are, and what each of them may lean on.
package rules

import (
	"go/ast"
	"go/parser"
	"go/token"
	"io/fs"
	"path/filepath"
	"slices"
	"strconv"
	"strings"
	"testing"
)

const module = "campanile"

// layers are the packages of the map; each may call those ahead of it.
var layers = strings.Fields(`api
	span bits mem clock region dma fifo crc phase tone frame uart nic disk conf image slot plan code asm
	cpu latch ring desc queue quota part serve post server machine alone trace filter compare script bound
	audit beat dis load seed build desk delta`)

// library is what may be imported of Go's own packages: none has a clock, chance, a file, the net or the environment.
var library = strings.Fields(`bytes cmp container/heap errors iter maps math math/bits slices sort strconv strings
	sync sync/atomic unicode unicode/utf8`)

// source is a file that is no test.
type source struct {
	pack string
	name string
	tree *ast.File
}

func sources(t *testing.T) []source {
	t.Helper()
	var out []source
	err := filepath.WalkDir("..", func(path string, d fs.DirEntry, err error) error {
		switch {
		case err != nil:
			return err
		case d.IsDir() && (d.Name() == ".git" || d.Name() == "sharedtests"):
			return filepath.SkipDir
		case d.IsDir() || !strings.HasSuffix(path, ".go") || strings.HasSuffix(path, "_test.go"):
			return nil
		}
		tree, err := parser.ParseFile(token.NewFileSet(), path, nil, parser.ParseComments)
		if err != nil {
			return err
		}
		pack, err := filepath.Rel("..", filepath.Dir(path))
		out = append(out, source{filepath.ToSlash(pack), path, tree})
		return err
	})
	if err != nil {
		t.Fatal(err)
	}
	return out
}

func TestAllLayersAreThere(t *testing.T) {
	there := map[string]bool{}
	for _, s := range sources(t) {
		there[s.pack] = true
	}
	for _, l := range layers {
		if !there[l] {
			t.Error("not there:", l)
		}
	}
}

// P6: no call asks the clock, chance or the environment; and a layer calls those ahead of it alone.
func TestImports(t *testing.T) {
	for _, s := range sources(t) {
		for _, i := range s.tree.Imports {
			path, err := strconv.Unquote(i.Path.Value)
			if err != nil {
				t.Fatal(s.name, err)
			}
			own, isOwn := strings.CutPrefix(path, module+"/")
			if !isOwn && !slices.Contains(library, path) {
				t.Error(s.name, "imports", path)
			}
			me, it := slices.Index(layers, s.pack), slices.Index(layers, own)
			if isOwn && me >= 0 && it >= me {
				t.Error(s.name, "imports a layer that is not ahead of it:", own)
			}
		}
	}
}

func TestNoDirectivesNorPrinting(t *testing.T) {
	for _, s := range sources(t) {
		for _, group := range s.tree.Comments {
			for _, c := range group.List {
				if strings.HasPrefix(c.Text, "//go:") || strings.HasPrefix(c.Text, "// +build") {
					t.Error(s.name, c.Text)
				}
			}
		}
		ast.Inspect(s.tree, func(n ast.Node) bool {
			call, ok := n.(*ast.CallExpr)
			if !ok {
				return true
			}
			if f, ok := call.Fun.(*ast.Ident); ok && (f.Name == "print" || f.Name == "println") {
				t.Error(s.name, "prints")
			}
			return true
		})
	}
}

// P6: nothing is kept between calls but in objects, so no package has a variable to which something is assigned.
func TestNoVariables(t *testing.T) {
	for _, s := range sources(t) {
		tables := map[string]bool{}
		for _, d := range s.tree.Decls {
			g, ok := d.(*ast.GenDecl)
			if !ok || g.Tok != token.VAR {
				continue
			}
			for _, spec := range g.Specs {
				v := spec.(*ast.ValueSpec)
				if len(v.Values) == 0 {
					t.Error(s.name, "has a variable without a value:", v.Names[0].Name)
				}
				for _, n := range v.Names {
					tables[n.Name] = true
				}
			}
		}
		ast.Inspect(s.tree, func(n ast.Node) bool {
			if a, ok := n.(*ast.AssignStmt); ok && a.Tok != token.DEFINE {
				for _, left := range a.Lhs {
					if tables[base(left)] {
						t.Error(s.name, "assigns to", base(left))
					}
				}
			}
			return true
		})
	}
}

// base is the name of what is assigned to, or of that of which it is a part.
func base(e ast.Expr) string {
	for {
		switch x := e.(type) {
		case *ast.Ident:
			return x.Name
		case *ast.IndexExpr:
			e = x.X
		case *ast.SelectorExpr:
			e = x.X
		case *ast.ParenExpr:
			e = x.X
		default:
			return ""
		}
	}
}

// P7: packages whose things are whole numbers have no floats, so there is nothing to be rounded.
func TestNoFloats(t *testing.T) {
	whole := []string{"span", "bits", "mem", "clock", "region", "dma", "fifo", "crc", "frame", "nic", "disk", "conf", "image", "slot", "plan", "code", "asm", "cpu", "latch", "ring", "desc", "queue", "quota", "part", "serve", "post", "server", "machine"}
	words := []string{"float32", "float64", "complex64", "complex128"}
	for _, s := range sources(t) {
		if !slices.Contains(whole, s.pack) {
			continue
		}
		ast.Inspect(s.tree, func(n ast.Node) bool {
			switch x := n.(type) {
			case *ast.Ident:
				if slices.Contains(words, x.Name) {
					t.Error(s.name, "has", x.Name)
				}
			case *ast.BasicLit:
				if x.Kind == token.FLOAT || x.Kind == token.IMAG {
					t.Error(s.name, "has", x.Value)
				}
			}
			return true
		})
	}
}

// P7: in a package of floats each product stands in a conversion of its own, since Go may round a product and a sum at once else.
func TestProductsAreRounded(t *testing.T) {
	floats := []string{"phase"}
	for _, s := range sources(t) {
		if !slices.Contains(floats, s.pack) {
			continue
		}
		rounded := map[ast.Expr]bool{}
		ast.Inspect(s.tree, func(n ast.Node) bool {
			switch x := n.(type) {
			case *ast.CallExpr:
				if f, ok := x.Fun.(*ast.Ident); ok && f.Name == "float64" {
					rounded[x.Args[0]] = true
				}
			case *ast.BinaryExpr:
				if x.Op == token.MUL && !rounded[x] {
					t.Error(s.name, "has a product that is not rounded by itself")
				}
			case *ast.AssignStmt:
				if x.Tok == token.MUL_ASSIGN {
					t.Error(s.name, "has a product that is not rounded by itself")
				}
			}
			return true
		})
	}
}
