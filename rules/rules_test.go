// Package rules looks at the text of the program: that each layer keeps to the language and calls only what the map says.
package rules

import (
	"bytes"
	"go/ast"
	"go/format"
	"go/parser"
	"go/token"
	"os"
	"path/filepath"
	"slices"
	"strconv"
	"strings"
	"testing"
)

const longestFunction = 60

// calls is the map of DOC.md: which packages of the program a layer calls.
var calls = map[string]string{
	"api":     "",
	"crc":     "",
	"code":    "api",
	"value":   "api",
	"key":     "api value",
	"doc":     "api code value",
	"path":    "api value",
	"disk":    "api",
	"page":    "api crc",
	"node":    "api",
	"pool":    "api disk page",
	"free":    "api",
	"over":    "api page pool",
	"tree":    "api page node pool over",
	"cursor":  "api page node pool over tree",
	"commit":  "api disk page pool free over tree cursor",
	"buffer":  "api",
	"reads":   "api",
	"occ":     "api code disk commit buffer reads",
	"catalog": "api code key path occ",
	"index":   "api key path value code",
	"event":   "api value code doc key catalog occ",
	"coll":    "api value key doc path occ catalog index event",
	"scan":    "api key doc occ catalog index coll",
	"build":   "api key doc occ catalog index coll",
	"ttl":     "api key code occ catalog index coll",
	"feed":    "api value code occ event",
	"model":   "api value key path catalog index event",
	"store":   "api disk occ catalog coll scan build ttl feed",
	"lab":     "api crc value disk store",
}

// library is what LANGUAGE.md lets a package take: nothing that prints, sleeps, or asks a clock, a random source, a file or the network.
var library = strings.Fields("bytes cmp container/heap errors iter maps math math/bits slices sort strconv strings sync sync/atomic unicode unicode/utf8")

type source struct {
	layer, name string
	text        []byte
	fset        *token.FileSet
	file        *ast.File
}

func sources(t *testing.T) []source {
	t.Helper()
	var out []source
	for layer := range calls {
		found, err := os.ReadDir(filepath.Join("..", layer))
		if err != nil {
			t.Fatal(err)
		}
		for _, f := range found {
			name := filepath.Join(layer, f.Name())
			if strings.HasSuffix(name, "_test.go") || f.IsDir() && f.Name() == "testdata" {
				continue
			}
			if !strings.HasSuffix(name, ".go") {
				t.Errorf("%s stands beside the Go files", name)
				continue
			}
			out = append(out, parsed(t, layer, name))
		}
	}
	return out
}

func parsed(t *testing.T, layer, name string) source {
	t.Helper()
	text, err := os.ReadFile(filepath.Join("..", name))
	if err != nil {
		t.Fatal(err)
	}
	fset := token.NewFileSet()
	file, err := parser.ParseFile(fset, name, text, parser.ParseComments)
	if err != nil {
		t.Fatal(err)
	}
	return source{layer, name, text, fset, file}
}

func TestImports(t *testing.T) {
	for _, s := range sources(t) {
		below := strings.Fields(calls[s.layer])
		for _, i := range s.file.Imports {
			path, _ := strconv.Unquote(i.Path.Value)
			own, ours := strings.CutPrefix(path, "codicil/")
			if ours && !slices.Contains(below, own) || !ours && !slices.Contains(library, path) {
				t.Errorf("%s imports %s", s.name, path)
			}
		}
	}
}

func TestNoPrinting(t *testing.T) {
	for _, s := range sources(t) {
		ast.Inspect(s.file, func(n ast.Node) bool {
			call, ok := n.(*ast.CallExpr)
			if !ok {
				return true
			}
			if f, ok := call.Fun.(*ast.Ident); ok && (f.Name == "print" || f.Name == "println") {
				t.Errorf("%s prints", s.fset.Position(f.Pos()))
			}
			return true
		})
	}
}

func TestNoDirectives(t *testing.T) {
	for _, s := range sources(t) {
		for _, group := range s.file.Comments {
			for _, c := range group.List {
				if strings.HasPrefix(c.Text, "//go:") || strings.HasPrefix(c.Text, "// +build") {
					t.Errorf("%s: %s", s.name, c.Text)
				}
			}
		}
	}
}

func TestLayout(t *testing.T) {
	for _, s := range sources(t) {
		if want, err := format.Source(s.text); err != nil || !bytes.Equal(want, s.text) {
			t.Errorf("%s is not laid out as gofmt does", s.name)
		}
	}
}

func TestShortFunctions(t *testing.T) {
	for _, s := range sources(t) {
		for _, d := range s.file.Decls {
			f, ok := d.(*ast.FuncDecl)
			if !ok {
				continue
			}
			lines := s.fset.Position(f.End()).Line - s.fset.Position(f.Pos()).Line + 1
			if lines > longestFunction {
				t.Errorf("%s: %s has %d lines", s.name, f.Name.Name, lines)
			}
		}
	}
}
