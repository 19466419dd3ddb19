// Package language_test holds the program's text against the rules of its language and the map of its layers.
package language_test

import (
	"bytes"
	"go/ast"
	"go/format"
	"go/parser"
	"go/token"
	"os"
	"path/filepath"
	"slices"
	"strconv"
	"strings"
	"testing"
)

const mostLines = 60 // of a function

// layer is a package, and the layers' packages that it may call beside api.
type layer struct{ name, calls string }

// layers is the document's map; a package of the project's own that is no layer stands here, too.
var layers = []layer{
	{"api", ""},
	{"sha", ""},
	{"mac", "sha"},
	{"wire", ""},
	{"tx", "sha wire"},
	{"state", "wire tx"},
	{"tree", "sha"},
	{"smt", "sha"},
	{"head", "sha wire"},
	{"block", "wire tx state tree smt head"},
	{"chain", "wire state smt head block"},
	{"disk", ""},
	{"wal", "wire disk"},
	{"conf", "head"},
	{"raft", "wire head conf"},
	{"node", "wire head disk wal conf raft"},
	{"seal", "sha mac wire"},
	{"cert", "sha mac wire head conf"},
	{"replica", "mac wire tx state head block chain disk conf raft node seal cert"},
	{"proof", "mac wire tx state tree smt head block chain cert replica"},
	{"light", "mac head cert proof"},
	{"client", "tx head replica"},
	{"net", ""},
	{"cluster", "mac head block disk replica light client net"},
	{"audit", "tx state smt head block cluster"},
	{"play", "client cluster audit"},
	{"desk", "audit play"},
}

// library is what the program may import of the library.
const library = "bytes cmp container/heap errors iter maps math math/bits slices sort strconv strings sync sync/atomic unicode unicode/utf8"

// source is a file of a layer.
type source struct {
	layer layer
	path  string
	text  []byte
	fset  *token.FileSet
	file  *ast.File
}

// sources is all files of the layers but their tests.
func sources(t *testing.T) []source {
	var out []source
	for _, l := range layers {
		paths, err := filepath.Glob(filepath.Join("..", l.name, "*.go"))
		if err != nil || len(paths) == 0 {
			t.Fatalf("package %s has no files: %v", l.name, err)
		}
		for _, path := range paths {
			if !strings.HasSuffix(path, "_test.go") {
				out = append(out, read(t, l, path))
			}
		}
	}
	return out
}

func read(t *testing.T, l layer, path string) source {
	text, err := os.ReadFile(path)
	if err != nil {
		t.Fatal(err)
	}
	fset := token.NewFileSet()
	file, err := parser.ParseFile(fset, path, text, parser.ParseComments)
	if err != nil {
		t.Fatal(err)
	}
	return source{l, path, text, fset, file}
}

func TestImports(t *testing.T) {
	for _, s := range sources(t) {
		for _, i := range s.file.Imports {
			path, err := strconv.Unquote(i.Path.Value)
			if err != nil {
				t.Fatal(err)
			}
			allowed := strings.Fields(library)
			name, own := strings.CutPrefix(path, "muniment/")
			if own {
				path, allowed = name, append(strings.Fields(s.layer.calls), "api")
			}
			if !slices.Contains(allowed, path) {
				t.Errorf("%s imports %s", s.path, i.Path.Value)
			}
		}
	}
}

func TestNamesOfTheLibrary(t *testing.T) {
	for _, s := range sources(t) {
		ast.Inspect(s.file, func(n ast.Node) bool {
			if x, ok := n.(*ast.SelectorExpr); ok {
				name := written(x)
				kind, of := strings.CutPrefix(name, "sync.")
				if of && !slices.Contains(strings.Fields("Mutex RWMutex WaitGroup Once"), kind) || name == "iter.Pull" || name == "iter.Pull2" {
					t.Errorf("%s: %s", s.fset.Position(x.Pos()), name)
				}
			}
			return true
		})
	}
}

// written is a selector as it is written, if it is of a plain name.
func written(x *ast.SelectorExpr) string {
	if of, ok := x.X.(*ast.Ident); ok {
		return of.Name + "." + x.Sel.Name
	}
	return ""
}

func TestNoLinesForTheCompiler(t *testing.T) {
	for _, s := range sources(t) {
		for _, g := range s.file.Comments {
			for _, c := range g.List {
				if strings.HasPrefix(c.Text, "//go:") || strings.HasPrefix(c.Text, "// +build") {
					t.Errorf("%s: %s", s.fset.Position(c.Pos()), c.Text)
				}
			}
		}
	}
}

func TestLayout(t *testing.T) {
	for _, s := range sources(t) {
		want, err := format.Source(s.text)
		if err != nil || !bytes.Equal(s.text, want) {
			t.Errorf("%s is not laid out as gofmt does: %v", s.path, err)
		}
	}
}

func TestFunctionsAreShort(t *testing.T) {
	for _, s := range sources(t) {
		for _, d := range s.file.Decls {
			f, ok := d.(*ast.FuncDecl)
			if !ok {
				continue
			}
			from, to := s.fset.Position(f.Pos()).Line, s.fset.Position(f.End()).Line
			if to-from >= mostLines {
				t.Errorf("%s: %s has %d lines", s.path, f.Name.Name, to-from+1)
			}
		}
	}
}
