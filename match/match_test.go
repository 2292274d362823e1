package match

import (
	"math"
	"math/rand"
	"regexp"
	"slices"
	"strings"
	"testing"

	"porter/api"
	"porter/charset"
	"porter/regex"
)

type node = api.Node

func parse(t *testing.T, s string) node {
	t.Helper()
	n, f := regex.Parse(s)
	if f.E != api.OK {
		t.Fatalf("Parse(%q): %v", s, f)
	}
	return n
}

// defined says by the definition whether n matches s.
func defined(n node, s string) bool {
	switch n.Kind {
	case api.One:
		return len(s) == 1 && charset.Has(n.Set, s[0])
	case api.Cat:
		if len(n.Kids) == 0 {
			return s == ""
		}
		for i := range len(s) + 1 {
			if defined(n.Kids[0], s[:i]) && defined(node{Kind: api.Cat, Kids: n.Kids[1:]}, s[i:]) {
				return true
			}
		}
		return false
	case api.Alt:
		return slices.ContainsFunc(n.Kids, func(kid node) bool { return defined(kid, s) })
	}
	if n.Min == 0 && s == "" {
		return true
	}
	if n.Max == 0 {
		return n.Min == 0 && s == ""
	}
	rest := node{Kind: api.Rep, Kids: n.Kids, Min: max(n.Min-1, 0), Max: max(n.Max-1, -1)}
	for i := range len(s) + 1 {
		// Without a bound, empty repetitions beyond Min would go on for ever and add nothing.
		if i == 0 && n.Min == 0 && n.Max == -1 {
			continue
		}
		if defined(n.Kids[0], s[:i]) && defined(rest, s[i:]) {
			return true
		}
	}
	return false
}

func randomPattern(r *rand.Rand, depth int) string {
	if depth == 0 {
		return []string{"a", "b", ".", "[^a]", "[ab]", ""}[r.Intn(6)]
	}
	sub := func() string { return randomPattern(r, depth-1) }
	switch r.Intn(4) {
	case 0:
		return "(" + sub() + ")" + []string{"*", "+", "?", "{2}", "{1,3}", "{2,}", "{0,2}", "{3}"}[r.Intn(8)]
	case 1:
		return "(" + sub() + "|" + sub() + ")"
	case 2:
		return sub() + sub()
	}
	return sub()
}

func randomText(r *rand.Rand, n int) string {
	s := ""
	for range r.Intn(n) {
		s += string("abc"[r.Intn(3)])
	}
	return s
}

func TestMatchByDefinition(t *testing.T) { // 15.1
	r := rand.New(rand.NewSource(15))
	matched := 0
	for range 3000 {
		pattern := randomPattern(r, 3)
		n := parse(t, pattern)
		s := randomText(r, 6)
		want := defined(n, s)
		if got := Match(n, s); got != want {
			t.Fatalf("Match of %q and %q is %v", pattern, s, got)
		}
		if want {
			matched++
		}
	}
	if matched < 300 {
		t.Errorf("only %d matches", matched)
	}
}

func TestMatchLikeTheLibrary(t *testing.T) { // 15.1
	r := rand.New(rand.NewSource(151))
	for range 3000 {
		pattern := randomPattern(r, 4)
		n := parse(t, pattern)
		library := regexp.MustCompile(`^(?s:` + pattern + `)$`)
		for range 5 {
			s := randomText(r, 30)
			if got, want := Match(n, s), library.MatchString(s); got != want {
				t.Fatalf("Match of %q and %q is %v", pattern, s, got)
			}
		}
	}
}

func TestMatch(t *testing.T) { // 15.1
	for _, c := range []struct {
		pattern, s string
		want       bool
	}{
		{"", "", true}, {"", "a", false}, {"a", "", false}, {"a", "a", true}, {"a", "ab", false}, {".", "\n", true}, {".", "\xff", true}, {"[^\\x00-\\xff]", "a", false},
		{"(ab)*", "abab", true}, {"(ab)*", "aba", false}, {"(ab)*", "", true}, {"a+", "", false}, {"a?", "aa", false}, {"a{2}", "aa", true}, {"a{2}", "aaa", false}, {"a{2,}", "a", false}, {"a{2,}", "aaaa", true}, {"a{2,3}", "aaaa", false},
		{"()*", "", true}, {"()+", "a", false}, {"(a*)*", "aaa", true}, {"(a|)+b", "b", true}, {`\xff\x00`, "\xff\x00", true}, {"é", "é", true},
	} {
		if got := Match(parse(t, c.pattern), c.s); got != c.want {
			t.Errorf("Match of %q and %q is %v", c.pattern, c.s, got)
		}
	}
}

// TestLengths: texts that end at, before and behind the end of a word of marks.
func TestLengths(t *testing.T) { // 15.1, 15.2
	for _, pattern := range []string{"a*", "a+", "(a|b)*", "(aa?)*", "a{0,1}(a{16})*a*"} {
		for _, n := range []int{1, 62, 63, 64, 65, 126, 127, 128, 129} {
			s := strings.Repeat("a", n)
			if !Match(parse(t, pattern), s) || Match(parse(t, pattern), s+"c") || Match(parse(t, pattern), "c"+s) {
				t.Errorf("%q is wrong for %d bytes", pattern, n)
			}
		}
	}
}

func TestEnds(t *testing.T) { // 15.2
	if got := Ends(parse(t, "a*"), "aab", 0); !slices.Equal(got, []int{0, 1, 2}) {
		t.Errorf("the example's ends are %v", got)
	}
	r := rand.New(rand.NewSource(152))
	for range 1500 {
		pattern := randomPattern(r, 2)
		n := parse(t, pattern)
		s := randomText(r, 7)
		for at := range len(s) + 1 {
			var want []int
			for end := at; end <= len(s); end++ {
				if defined(n, s[at:end]) {
					want = append(want, end)
				}
			}
			if got := Ends(n, s, at); !slices.Equal(got, want) {
				t.Fatalf("Ends of %q in %q at %d are %v, want %v", pattern, s, at, got, want)
			}
		}
	}
	long := strings.Repeat("a", 200)
	if got := Ends(parse(t, "a{1,2}"), long, 63); !slices.Equal(got, []int{64, 65}) {
		t.Errorf("ends in a long text: %v", got)
	}
	if got := Ends(parse(t, "a*"), long, 100); len(got) != 101 || got[100] != 200 {
		t.Errorf("ends of a long text: %v", got)
	}
}

func TestInvalid(t *testing.T) { // 15.1, 15.2
	a := parse(t, "a")
	for _, n := range []node{{}, {Kind: 7}, {Kind: api.Cat, Kids: []node{a}}, {Kind: api.Rep}, {Kind: api.Rep, Kids: []node{a}, Min: 1}, {Kind: api.Alt, Kids: []node{a, {}}}} {
		if Match(n, "a") || Match(n, "") || len(Ends(n, "a", 0)) != 0 {
			t.Errorf("the invalid tree %v matches", n)
		}
	}
	for _, at := range []int{-1, 2, math.MinInt, math.MaxInt} {
		if got := Ends(parse(t, ""), "a", at); len(got) != 0 {
			t.Errorf("Ends at %d: %v", at, got)
		}
	}
}

func TestProperties(t *testing.T) { // 15.3
	r := rand.New(rand.NewSource(153))
	for range 1000 {
		x, y := randomPattern(r, 2), randomPattern(r, 2)
		s := randomText(r, 6)
		both := parse(t, "("+x+")("+y+")")
		parts := false
		for i := range len(s) + 1 {
			parts = parts || Match(parse(t, x), s[:i]) && Match(parse(t, y), s[i:])
		}
		if Match(both, s) != parts {
			t.Fatalf("%q and %q one after the other match %q: %v", x, y, s, !parts)
		}
		if Match(parse(t, x), s) && !Match(parse(t, "("+x+")|("+y+")"), s) {
			t.Fatalf("%q or %q does not match %q", x, y, s)
		}
	}
}

// TestNestedRepetitions: patterns whose repetitions multiply are matched all the same.
func TestNestedRepetitions(t *testing.T) { // 15.1
	for _, c := range []struct {
		before, after string
	}{{"(", "){16}"}, {"(", "|x){16}"}, {"(", "|x)*"}, {"(", "|x|)*"}, {"(", "x?){2,16}"}, {"(", "|xx){16}"}, {"(x", ")+"}, {"(", "|xx|xxx){5,16}"}} {
		levels := 256 / (len(c.before) + len(c.after) + 1)
		n := parse(t, strings.Repeat(c.before, min(levels, 16))+"x"+strings.Repeat(c.after, min(levels, 16)))
		for _, s := range []string{strings.Repeat("x", 400), strings.Repeat("x", 399) + "y", ""} {
			Match(n, s)
		}
	}
	deep := node{Kind: api.One, Set: charset.Texts("x")}
	for range 20000 {
		deep = node{Kind: api.Rep, Kids: []node{deep}, Min: 1, Max: -1}
	}
	if !Match(deep, "xxx") || Match(deep, "xxy") {
		t.Error("a deep tree is matched wrongly")
	}
}
