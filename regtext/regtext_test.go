package regtext

import (
	"fmt"
	"math/rand"
	"strings"
	"testing"

	"porter/api"
	"porter/charset"
	"porter/regex"
)

type node = api.Node

func one(s string) node { return node{Kind: api.One, Set: charset.Texts(s)} }
func rep(kid node, low, high int) node {
	return node{Kind: api.Rep, Kids: []node{kid}, Min: low, Max: high}
}
func cat(kids ...node) node { return node{Kind: api.Cat, Kids: kids} }
func alt(kids ...node) node { return node{Kind: api.Alt, Kids: kids} }

// nested returns a tree whose text has parentheses n deep.
func nested(n int) node {
	tree := rep(one("a"), 0, 1)
	for range n {
		tree = rep(tree, 0, 1)
	}
	return tree
}

func TestByte(t *testing.T) { // 14.1
	for b := range 256 {
		want := string([]byte{byte(b)})
		if strings.Contains(`\.[](){}|*+?`, want) {
			want = `\` + want
		} else if b < 0x20 || b > 0x7e {
			want = fmt.Sprintf(`\x%02x`, b)
		}
		if got := Byte(byte(b)); got != want {
			t.Errorf("Byte(%d) = %s, want %s", b, got, want)
		}
	}
}

func TestSet(t *testing.T) { // 14.1
	for _, c := range []struct {
		s    api.Set
		want string
	}{
		{charset.Texts("a"), "a"}, {charset.Texts("."), `\.`}, {charset.Texts("-"), "-"}, {charset.Texts("^"), "^"}, {charset.Texts("\x00"), `\x00`}, {charset.Texts("\xff"), `\xff`},
		{charset.Of(0, 255), "."}, {charset.Of('0', '9'), `\d`}, {charset.Texts(word), `\w`}, {api.Set{}, `[^\x00-\xff]`},
		{charset.Texts("ab"), "[ab]"}, {charset.Texts("abc"), "[a-c]"}, {charset.Texts("acd"), "[acd]"}, {charset.Texts("abcx"), "[a-cx]"}, {charset.Of('0', '8'), "[0-8]"}, {charset.Or(charset.Of('0', '9'), charset.Texts("a")), "[0-9a]"},
		{charset.Texts(`\]`), `[\\\]]`}, {charset.Texts(`[\]^`), `[\[-\^]`}, {charset.Texts("-x"), `[\-x]`}, {charset.Texts(".*+?(){}|"), `[(-+.?{-}]`}, {charset.Texts("\x00\xff"), `[\x00\xff]`}, {charset.Of(1, 255), `[\x01-\xff]`}, {charset.Of(0, 254), `[\x00-\xfe]`}, {charset.Of(126, 128), `[~-\x80]`},
	} {
		if got := Set(c.s); got != c.want {
			t.Errorf("Set(%q) = %s, want %s", charset.Text(c.s), got, c.want)
		}
	}
}

func TestText(t *testing.T) { // 14.2
	a, b := one("a"), one("b")
	for _, c := range []struct {
		n    node
		want string
	}{
		{a, "a"}, {cat(), ""}, {cat(a, b), "ab"}, {alt(a, b), "a|b"}, {alt(cat(), cat()), "|"}, {alt(cat(a, b), a), "ab|a"}, {cat(a, alt(a, b)), "a(a|b)"}, {cat(alt(a, cat()), b), "(a|)b"}, {cat(rep(a, 0, -1), b), "a*b"},
		{rep(a, 0, -1), "a*"}, {rep(a, 1, -1), "a+"}, {rep(a, 0, 1), "a?"}, {rep(a, 1, 1), "a{1}"}, {rep(a, 16, 16), "a{16}"}, {rep(a, 2, -1), "a{2,}"}, {rep(a, 16, -1), "a{16,}"}, {rep(a, 0, 2), "a{0,2}"}, {rep(a, 1, 16), "a{1,16}"},
		{rep(cat(), 0, -1), "()*"}, {rep(cat(a, b), 0, 1), "(ab)?"}, {rep(alt(a, b), 1, 1), "(a|b){1}"}, {rep(rep(a, 0, -1), 0, -1), "(a*)*"}, {cat(a, rep(alt(b, one("c")), 0, 1)), "a(b|c)?"}, {one(""), `[^\x00-\xff]`}, {rep(one("ab"), 0, 1), "[ab]?"}, {rep(one("."), 0, 1), `\.?`},
	} {
		if got, ok := Text(c.n); got != c.want || !ok {
			t.Errorf("Text(%v) = %q, %v, want %q", c.n, got, ok, c.want)
		}
	}
}

func TestTextRefuses(t *testing.T) { // 14.2
	long := make([]node, 256)
	for i := range long {
		long[i] = one("a")
	}
	if got, ok := Text(cat(long...)); len(got) != 256 || !ok {
		t.Errorf("256 bytes: %d, %v", len(got), ok)
	}
	if got, ok := Text(alt(cat(long[1:]...), cat())); len(got) != 256 || !ok {
		t.Errorf("255 bytes and a bar: %d, %v", len(got), ok)
	}
	if got, ok := Text(nested(16)); !strings.HasPrefix(got, strings.Repeat("(", 16)+"a?") || !ok {
		t.Errorf("16 parentheses: %q, %v", got, ok)
	}
	// Parentheses one after the other are not open at the same time.
	pairs := make([]node, 20)
	for i := range pairs {
		pairs[i] = alt(one("a"), one("b"))
	}
	if got, ok := Text(cat(pairs...)); got != strings.Repeat("(a|b)", 20) || !ok {
		t.Errorf("20 pairs of parentheses: %q, %v", got, ok)
	}
	// Escaped parentheses and those within brackets are not open.
	if got, ok := Text(cat(one("("), one("("), one("()"), nested(16))); !ok || !strings.HasPrefix(got, `\(\([()]((`) {
		t.Errorf("other parentheses: %q, %v", got, ok)
	}
	for i, n := range []node{{}, cat(one("a")), rep(one("a"), 0, 0), alt(one("a"), alt(one("a"), one("b"))), cat(append(long, one("b"))...), cat(append(long[1:], one("."))...), nested(17), nested(60000), cat(one("a"), nested(17), one("b"))} {
		if got, ok := Text(n); got != "" || ok {
			t.Errorf("tree %d: %q, %v", i, got, ok)
		}
	}
}

// randomTree returns a valid tree.
func randomTree(r *rand.Rand, depth int) node {
	if depth == 0 || r.Intn(4) == 0 {
		sets := []string{"a", "b", "", "(", "^-", "abc", "\x00\xff", digits, word}
		return one(sets[r.Intn(len(sets))])
	}
	if r.Intn(3) == 0 {
		low := r.Intn(3)
		high := []int{-1, max(low, 1), low + 1 + r.Intn(3)}[r.Intn(3)]
		return rep(randomTree(r, depth-1), low, high)
	}
	n := node{Kind: []int{api.Cat, api.Alt}[r.Intn(2)]}
	for len(n.Kids) < 2+r.Intn(2) {
		if kid := randomTree(r, depth-1); kid.Kind != n.Kind {
			n.Kids = append(n.Kids, kid)
		}
	}
	if r.Intn(6) == 0 {
		return cat()
	}
	return n
}

func TestProperties(t *testing.T) { // 14.3
	r := rand.New(rand.NewSource(14))
	texts := map[string]node{}
	for range 5000 {
		n := randomTree(r, 4)
		s, ok := Text(n)
		if !ok {
			continue
		}
		if got, f := regex.Parse(s); f.E != api.OK || !regex.Same(got, n) {
			t.Fatalf("Parse(Text(%v)) = %v, %v for %q", n, got, f, s)
		}
		if other, seen := texts[s]; seen && !regex.Same(other, n) {
			t.Fatalf("%v and %v have the text %q", n, other, s)
		}
		texts[s] = n
	}
	if len(texts) < 1000 {
		t.Errorf("only %d texts", len(texts))
	}
}

func TestExamples(t *testing.T) {
	for s, want := range map[string]string{"(a)(b|c){0,1}": "a(b|c)?", "[a-b]": "[ab]"} {
		n, _ := regex.Parse(s)
		if got, ok := Text(n); got != want || !ok {
			t.Errorf("the canonical text of %s is %s", s, got)
		}
	}
}
