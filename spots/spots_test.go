package spots

import (
	"fmt"
	"math/rand"
	"slices"
	"strings"
	"testing"

	"porter/api"
	"porter/charset"
	"porter/match"
	"porter/regex"
)

type node = api.Node

func parse(t *testing.T, s string) node {
	t.Helper()
	n, f := regex.Parse(s)
	if f.E != api.OK {
		t.Fatalf("Parse(%q): %v", s, f)
	}
	return n
}

func of(t *testing.T, s string) api.Spots {
	t.Helper()
	p, e := Of(parse(t, s))
	if e != api.OK {
		t.Fatalf("Of(%q): error %d", s, e)
	}
	return p
}

func TestCount(t *testing.T) { // 16.1
	for s, want := range map[string]int{
		"": 0, "()*": 0, "(()*){16}": 0, "a": 1, "ab|c": 3, "a*": 1, "a+": 2, "a?": 1, "a{3}": 3, "a{2,5}": 5, "a{2,}": 3, "a{0,}": 1, "a(b|c)*": 3, "(ab{2}){3}": 9,
		"(a{16}){16}": 256, "((a{16}){16}){2}": 512, "((a{16}){16}){2}b": 513, "(((a{16}){16}){16}){16}": 513, "[^\\x00-\\xff]": 1,
		strings.Repeat("(", 16) + "a" + strings.Repeat("){16,}", 16): 513,
	} {
		if got := Count(parse(t, s)); got != want {
			t.Errorf("Count of %q is %d, want %d", s, got, want)
		}
	}
	a := parse(t, "a")
	for _, n := range []node{{}, {Kind: api.Cat, Kids: []node{{}}}, {Kind: api.Rep}, {Kind: api.Cat, Kids: []node{a}}, {Kind: api.Alt, Kids: []node{a}}, {Kind: api.Rep, Kids: []node{a}, Min: 17, Max: 17}, {Kind: api.Alt, Kids: []node{a, {}}}} {
		if Count(n) != 0 {
			t.Errorf("the invalid tree %v has positions", n)
		}
	}
}

func TestOf(t *testing.T) { // 16.2
	for _, c := range []struct {
		s           string
		none        bool
		first, last string
		next        string
	}{
		{"", true, "[]", "[]", "[]"}, {"a", false, "[0]", "[0]", "[[]]"}, {"ab", false, "[0]", "[1]", "[[1] []]"}, {"a|b", false, "[0 1]", "[0 1]", "[[] []]"}, {"a|", true, "[0]", "[0]", "[[]]"},
		{"a*", true, "[0]", "[0]", "[[0]]"}, {"a+", false, "[0]", "[0 1]", "[[1] [1]]"}, {"a?", true, "[0]", "[0]", "[[]]"}, {"a(b|c)*", false, "[0]", "[0 1 2]", "[[1 2] [1 2] [1 2]]"},
		{"a{3}", false, "[0]", "[2]", "[[1] [2] []]"}, {"a{2,}", false, "[0]", "[1 2]", "[[1] [2] [2]]"}, {"a{1,3}", false, "[0]", "[0 1 2]", "[[1] [2] []]"}, {"a{0,3}", true, "[0]", "[0 1 2]", "[[1] [2] []]"},
		{"a?b?c", false, "[0 1 2]", "[2]", "[[1 2] [2] []]"}, {"ab?c?", false, "[0]", "[0 1 2]", "[[1 2] [2] []]"}, {"(a?){2}", true, "[0 1]", "[0 1]", "[[1] []]"}, {"(a?){0,3}", true, "[0 1 2]", "[0 1 2]", "[[1 2] [2] []]"},
		{"(ab){1,2}c", false, "[0]", "[4]", "[[1] [2 4] [3] [4] []]"}, {"(ab)*", true, "[0]", "[1]", "[[1] [0]]"}, {"(a?b?)*", true, "[0 1]", "[0 1]", "[[0 1] [0 1]]"}, {"(a*)*", true, "[0]", "[0]", "[[0]]"}, {"a()*b", false, "[0]", "[1]", "[[1] []]"}, {"(()|()*){5}", true, "[]", "[]", "[]"},
	} {
		p := of(t, c.s)
		if p.None != c.none || fmt.Sprint(p.First) != c.first || fmt.Sprint(p.Last) != c.last || fmt.Sprint(p.Next) != c.next {
			t.Errorf("Of(%q): %v, first %v, last %v, next %v", c.s, p.None, p.First, p.Last, p.Next)
		}
	}
	if p := of(t, "a[bc]{2}."); !slices.Equal(p.Sets, []api.Set{charset.Texts("a"), charset.Texts("bc"), charset.Texts("bc"), charset.Of(0, 255)}) {
		t.Errorf("the sets are %v", p.Sets)
	}
}

func TestOfRefuses(t *testing.T) { // 16.2
	for _, c := range []struct {
		n    node
		want api.Errno
	}{
		{node{}, api.ErrArg}, {node{Kind: api.Cat, Kids: []node{{Kind: api.One}}}, api.ErrArg}, {parse(t, "((a{16}){16}){2}b"), api.ErrStates}, {parse(t, "((((a+)+)+)+){16}((((a{16}){16}){16}){16}){16}"), api.ErrStates},
		{parse(t, "((a{16}){16}){2}"), api.OK}, {parse(t, strings.Repeat("(", 16)+strings.Repeat("){16}", 16)), api.OK},
	} {
		p, e := Of(c.n)
		if e != c.want || e != api.OK && (len(p.Sets) != 0 || p.None || len(p.First)+len(p.Last)+len(p.Next) != 0) {
			t.Errorf("Of = %v, error %d, want %d", p, e, c.want)
		}
	}
}

// broken returns valid positions of a(b|c)*, changed.
func broken(t *testing.T, change func(*api.Spots)) api.Spots {
	p := of(t, "a(b|c)*")
	change(&p)
	return p
}

func TestRight(t *testing.T) { // 16.3, 16.4
	long := api.Spots{Sets: make([]api.Set, 512), Next: make([][]int, 512)}
	for i, p := range []api.Spots{{}, {None: true}, long, broken(t, func(p *api.Spots) {}), broken(t, func(p *api.Spots) { p.First, p.Last = nil, []int{2} })} {
		if !Right(p) {
			t.Errorf("valid positions %d are refused", i)
		}
	}
	for i, change := range []func(p *api.Spots){
		func(p *api.Spots) { p.Next = p.Next[1:] }, func(p *api.Spots) { p.Next = append(p.Next, nil) }, func(p *api.Spots) { p.Sets = p.Sets[:2] },
		func(p *api.Spots) { p.First = []int{3} }, func(p *api.Spots) { p.First = []int{-1} }, func(p *api.Spots) { p.First = []int{1, 0} }, func(p *api.Spots) { p.First = []int{1, 1} },
		func(p *api.Spots) { p.Last = []int{3} }, func(p *api.Spots) { p.Last = []int{-1, 0} }, func(p *api.Spots) { p.Last = []int{0, 2, 1} },
		func(p *api.Spots) { p.Next[0] = []int{3} }, func(p *api.Spots) { p.Next[2] = []int{2, 2} }, func(p *api.Spots) { p.Next[1] = []int{1 << 62} },
		func(p *api.Spots) { p.Sets, p.Next = make([]api.Set, 513), make([][]int, 513) },
	} {
		p := broken(t, change)
		p.None = true
		if Right(p) || Match(p, "") || Match(p, "a") {
			t.Errorf("invalid positions %d are accepted", i)
		}
	}
}

func TestMatch(t *testing.T) { // 16.4
	p := api.Spots{Sets: []api.Set{charset.Texts("ab"), charset.Texts("b")}, First: []int{0, 1}, Last: []int{1}, Next: [][]int{{0, 1}, nil}}
	for s, want := range map[string]bool{"": false, "a": false, "b": true, "ab": true, "aab": true, "abb": true, "ba": false, "c": false, "bc": false, "aaab": true} {
		if Match(p, s) != want {
			t.Errorf("Match of %q is %v", s, !want)
		}
	}
	p.None = true
	if !Match(p, "") {
		t.Error("None does not tell about the empty string")
	}
}

func randomPattern(r *rand.Rand, depth int) string {
	if depth == 0 {
		return []string{"a", "b", ".", "[ab]", "", "c"}[r.Intn(6)]
	}
	sub := func() string { return randomPattern(r, depth-1) }
	switch r.Intn(4) {
	case 0:
		return "(" + sub() + ")" + []string{"*", "+", "?", "{2}", "{1,3}", "{2,}", "{0,2}", "{3}"}[r.Intn(8)]
	case 1:
		return "(" + sub() + "|" + sub() + ")"
	}
	return sub() + sub()
}

func TestMatchesWhatThePatternMatches(t *testing.T) { // 16.5
	r := rand.New(rand.NewSource(16))
	for range 3000 {
		pattern := randomPattern(r, 4)
		n := parse(t, pattern)
		p, e := Of(n)
		if e != api.OK {
			if Count(n) != 513 {
				t.Fatalf("Of(%q): error %d", pattern, e)
			}
			continue
		}
		if !Right(p) || len(p.Sets) != Count(n) {
			t.Fatalf("Of(%q) is invalid", pattern)
		}
		for range 8 {
			s := ""
			for range r.Intn(12) {
				s += string("abc"[r.Intn(3)])
			}
			if got, want := Match(p, s), match.Match(n, s); got != want {
				t.Fatalf("the positions of %q match %q: %v", pattern, s, got)
			}
		}
	}
}

func TestListsShareNothing(t *testing.T) {
	p, q := of(t, "(a?b?){3}c"), of(t, "(a?b?){3}c")
	for i := range p.First {
		p.First[i] = 99
	}
	_ = append(p.Next[0][:0], 99)
	_ = append(p.First, 99)
	if fmt.Sprint(p.Next[1:], p.Last) != fmt.Sprint(q.Next[1:], q.Last) {
		t.Error("the lists of a result share memory")
	}
}
