// Package whole holds tests of what is promised for all layers together.
package whole

import (
	"go/parser"
	"go/token"
	"path/filepath"
	"slices"
	"strconv"
	"strings"
	"testing"
)

// calls are the packages that each layer may import, as DOC.md's overview lists them.
const calls = `
sat:
octet:
sha: octet
hmac: octet sha
stream: hmac octet
box: api hmac stream
varint: api
field: api varint
name:
quote: api
labels: api name quote
charset: api
regex: api charset
regtext: api charset regex
match: api charset regex
spots: api charset regex
blocks: api charset
dfa: api blocks charset spots
least: api dfa
prod: api blocks dfa least
lang: api dfa least prod sat
matcher: api labels match name quote regex
selector: api matcher
auto: api dfa least matcher prod regex spots
scope: api auto dfa labels lang prod selector
rewrite: api auto lang matcher selector
caveat: api name selector
policy: api caveat
rootid: api field name
token: api field
bundle: api field token
request: api bundle field labels name selector
reply: api field selector token
chain: api hmac
holder: api box chain
notary: api box chain hmac holder
verify: api box chain hmac
ring: api name
record: api field ring
plan: api name ring
disk: api
frame: api octet
entry: api disk frame sha
store: api disk entry plan record ring
bucket: api sat
rate: api bucket name
gate: api caveat chain disk plan policy rate request rewrite ring rootid selector store verify
bound: api entry plan record sat
opcode: api name octet quote
play: api disk gate holder notary octet rate reply request rootid
`

// library are the packages of the library that the program may import.
const library = "bytes cmp container/heap errors iter maps math math/bits slices sort strconv strings sync sync/atomic unicode unicode/utf8"

// imports returns what the files of a package import, without its tests.
func imports(t *testing.T, pack string) []string {
	t.Helper()
	files, err := filepath.Glob(filepath.Join("..", pack, "*.go"))
	if err != nil || len(files) == 0 {
		t.Fatalf("no files of %s: %v", pack, err)
	}
	var l []string
	for _, file := range files {
		if strings.HasSuffix(file, "_test.go") {
			continue
		}
		f, err := parser.ParseFile(token.NewFileSet(), file, nil, parser.ImportsOnly)
		if err != nil {
			t.Fatal(err)
		}
		for _, spec := range f.Imports {
			path, _ := strconv.Unquote(spec.Path.Value)
			l = append(l, path)
		}
	}
	return l
}

func TestImports(t *testing.T) {
	for _, line := range strings.Split(strings.TrimSpace(calls), "\n") {
		layer, rest, _ := strings.Cut(line, ":")
		for _, path := range imports(t, layer) {
			own, isOwn := strings.CutPrefix(path, "porter/")
			if isOwn && !slices.Contains(strings.Fields(rest), own) || !isOwn && !slices.Contains(strings.Fields(library), path) {
				t.Errorf("%s imports %s", layer, path)
			}
		}
	}
}
