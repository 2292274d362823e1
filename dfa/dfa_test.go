package dfa

import (
	"fmt"
	"math/rand"
	"slices"
	"strings"
	"testing"

	"porter/api"
	"porter/blocks"
	"porter/charset"
	"porter/match"
	"porter/regex"
	"porter/spots"
)

// positions returns the positions of a pattern.
func positions(t *testing.T, s string) (api.Node, api.Spots, api.Errno) {
	t.Helper()
	n, f := regex.Parse(s)
	if f.E != api.OK {
		t.Fatalf("Parse(%q): %v", s, f)
	}
	p, e := spots.Of(n)
	return n, p, e
}

func of(t *testing.T, s string) api.Dfa {
	t.Helper()
	_, p, _ := positions(t, s)
	d, e := Of(p)
	if e != api.OK {
		t.Fatalf("Of(%q): error %d", s, e)
	}
	return d
}

// broken returns the automaton of a*b, changed.
func broken(t *testing.T, change func(*api.Dfa)) api.Dfa {
	d := of(t, "a*b")
	change(&d)
	return d
}

func TestRight(t *testing.T) { // 18.1
	one := api.Dfa{Final: []bool{true}, Block: make([]int, 256), Next: [][]int{{0}}}
	most := api.Dfa{Start: 4095, Final: make([]bool, 4096), Block: make([]int, 256), Next: slices.Repeat([][]int{{4095}}, 4096)}
	for i, d := range []api.Dfa{one, most, broken(t, func(d *api.Dfa) {}), broken(t, func(d *api.Dfa) { d.Start = 3 })} {
		if !Right(d) {
			t.Errorf("the valid automaton %d is refused", i)
		}
	}
	for i, change := range []func(*api.Dfa){
		func(d *api.Dfa) { *d = api.Dfa{} }, func(d *api.Dfa) { d.Final = d.Final[1:] }, func(d *api.Dfa) { d.Next = d.Next[1:] }, func(d *api.Dfa) { d.Next = append(d.Next, d.Next[0]) },
		func(d *api.Dfa) { d.Block = d.Block[1:] }, func(d *api.Dfa) { d.Block[0] = 1 }, func(d *api.Dfa) { d.Block[255] = 9 }, func(d *api.Dfa) { d.Block[1] = -1 }, func(d *api.Dfa) { d.Block = make([]int, 256) },
		func(d *api.Dfa) { d.Start = -1 }, func(d *api.Dfa) { d.Start = 4 }, func(d *api.Dfa) { d.Next[1][0] = 4 }, func(d *api.Dfa) { d.Next[1][2] = -1 }, func(d *api.Dfa) { d.Next[1] = d.Next[1][1:] }, func(d *api.Dfa) { d.Next[2] = append(d.Next[2], 0) }, func(d *api.Dfa) { d.Next[0] = nil },
		func(d *api.Dfa) {
			*d = api.Dfa{Final: make([]bool, 4097), Block: make([]int, 256), Next: slices.Repeat([][]int{{0}}, 4097)}
		},
	} {
		d := broken(t, change)
		if Right(d) || State(d, "") != -1 || State(d, "b") != -1 || Run(d, "") || Run(d, "b") {
			t.Errorf("the invalid automaton %d is accepted", i)
		}
	}
}

func TestStateAndRun(t *testing.T) { // 18.1
	d := of(t, "a*b")
	d.Start = 1
	for s, want := range map[string]int{"": 1} {
		if got := State(d, s); got != want {
			t.Errorf("State of %q is %d", s, got)
		}
	}
	d.Start = 0
	at := 0
	for _, b := range []byte("aabx") {
		at = d.Next[at][d.Block[b]]
	}
	if got := State(d, "aabx"); got != at {
		t.Errorf("State of aabx is %d, want %d", got, at)
	}
	for s, want := range map[string]bool{"": false, "b": true, "aab": true, "aabx": false, "aa": false, "\xff": false} {
		if Run(d, s) != want {
			t.Errorf("Run of %q is %v", s, !want)
		}
	}
}

func TestOf(t *testing.T) { // 18.2
	for _, c := range []struct {
		pattern, final, next string
	}{
		{"a*", "[true false true]", "[[1 2] [1 1] [1 2]]"},
		{"", "[true false]", "[[1] [1]]"},
		{"a*b", "[false false false true]", "[[1 2 3] [1 1 1] [1 2 3] [1 1 1]]"},
		{"a|b", "[false false true true]", "[[1 2 3] [1 1 1] [1 1 1] [1 1 1]]"},
		{".", "[false true false]", "[[1] [2] [2]]"},
		{".*", "[true true]", "[[1] [1]]"},
		{"(a|b)*a", "[false false true false]", "[[1 2 3] [1 1 1] [1 2 3] [1 2 3]]"},
		{"[^\\x00-\\xff]", "[false false]", "[[1] [1]]"},
	} {
		d := of(t, c.pattern)
		if d.Start != 0 || fmt.Sprint(d.Final) != c.final || fmt.Sprint(d.Next) != c.next {
			t.Errorf("Of(%q): final %v, next %v", c.pattern, d.Final, d.Next)
		}
		_, p, _ := positions(t, c.pattern)
		if !slices.Equal(d.Block, blocks.Of(p.Sets)) {
			t.Errorf("Of(%q): block %v", c.pattern, d.Block)
		}
	}
}

// TestOfWithClassesOfNoUse: the classes are those of the sets, also of positions that nothing reaches.
func TestOfWithClassesOfNoUse(t *testing.T) { // 18.2
	d, e := Of(api.Spots{Sets: []api.Set{charset.Texts("a"), charset.Texts("b")}, First: []int{0}, Last: []int{0}, Next: make([][]int, 2)})
	if e != api.OK || blocks.Count(d.Block) != 3 || fmt.Sprint(d.Next) != "[[1 2 1] [1 1 1] [1 1 1]]" {
		t.Errorf("%v, error %d", d, e)
	}
}

func TestOfRefuses(t *testing.T) { // 18.2
	for _, p := range []api.Spots{{First: []int{0}}, {Sets: make([]api.Set, 2), Next: make([][]int, 1)}, {Sets: make([]api.Set, 513), Next: make([][]int, 513)}} {
		if d, e := Of(p); e != api.ErrArg || len(d.Next) != 0 {
			t.Errorf("invalid positions: error %d", e)
		}
	}
	// The states of (a|b)*a(a|b){k} remember where there was an a among the last k + 1 bytes.
	for pattern, want := range map[string]api.Errno{"[ab]*a[ab]{10}": api.OK, "[ab]*a[ab]{11}": api.ErrStates, "[ab]*a[ab]{16}": api.ErrStates} {
		_, p, _ := positions(t, pattern)
		d, e := Of(p)
		if e != want || e != api.OK && len(d.Next)+len(d.Final)+len(d.Block) != 0 {
			t.Errorf("Of(%q): %d states, error %d", pattern, len(d.Next), e)
		}
	}
}

// ladder returns positions whose automaton has n + 2 states: one for each length up to n, and the empty set.
func ladder(n int) api.Spots {
	p := api.Spots{Sets: make([]api.Set, n), Next: make([][]int, n), First: []int{0}}
	for i := range n {
		p.Sets[i] = charset.Texts("a")
		if i+1 < n {
			p.Next[i] = []int{i + 1}
		}
	}
	return p
}

func TestNumberOfStates(t *testing.T) { // 18.2
	d, e := Of(ladder(512))
	if e != api.OK || len(d.Next) != 514 || !Right(d) {
		t.Errorf("%d states, error %d", len(d.Next), e)
	}
}

func TestMostStates(t *testing.T) { // 18.2: 4096 states are allowed, 4097 are not
	// Parts without a byte in common share the start state and the empty set alone, and every c adds a state.
	const large = "[ab]*a[ab]{10}|[de]*d[de]{9}|[fg]*f[fg]{8}|[hi]*h[hi]{7}|"
	base := len(of(t, large+"c").Next)
	for more, want := range map[int]api.Errno{4096 - base: api.OK, 4097 - base: api.ErrStates} {
		c := "c" + strings.Repeat("c{16}", more/16) + strings.Repeat("c", more%16)
		_, p, e := positions(t, large+c)
		if e != api.OK {
			t.Fatalf("%d positions", len(p.Sets))
		}
		if d, e := Of(p); e != want || e == api.OK && len(d.Next) != 4096 {
			t.Errorf("%d states, error %d, want %d", len(d.Next), e, want)
		}
	}
}

func TestWord(t *testing.T) { // 18.3
	every := make([]byte, 256)
	for i := range every {
		every[i] = byte(i)
	}
	for _, s := range []string{"", "a", "ab", "aba", "\x00\xff\x00", string(every), strings.Repeat("xy", 512)} {
		d, e := Word(s)
		if e != api.OK || !Right(d) || len(d.Next) != len(s)+2 || d.Start != 0 {
			t.Fatalf("Word(%.9q): %d states, error %d", s, len(d.Next), e)
		}
		var sets []api.Set
		for _, b := range []byte(s) {
			sets = append(sets, charset.Of(b, b))
		}
		if !slices.Equal(d.Block, blocks.Of(sets)) {
			t.Errorf("Word(%.9q): block %v", s, d.Block)
		}
		for i, row := range d.Next {
			for class, next := range row {
				want := len(s) + 1
				if i < len(s) && class == d.Block[s[i]] {
					want = i + 1
				}
				if next != want {
					t.Fatalf("Word(%.9q): from %d by class %d to %d", s, i, class, next)
				}
			}
		}
		if !Run(d, s) || Run(d, s+"a") || Run(d, "q"+s) || s != "" && Run(d, s[1:]) {
			t.Errorf("Word(%.9q) accepts other strings", s)
		}
	}
	if d, e := Word(strings.Repeat("x", 1025)); e != api.ErrLimit || len(d.Next)+len(d.Final)+len(d.Block) != 0 {
		t.Errorf("a word of 1025 bytes: error %d", e)
	}
}

func randomPattern(r *rand.Rand, depth int) string {
	if depth == 0 {
		return []string{"a", "b", ".", "[^a]", "[ab]", ""}[r.Intn(6)]
	}
	sub := func() string { return randomPattern(r, depth-1) }
	switch r.Intn(4) {
	case 0:
		return "(" + sub() + ")" + []string{"*", "+", "?", "{2}", "{1,3}", "{2,}"}[r.Intn(6)]
	case 1:
		return "(" + sub() + "|" + sub() + ")"
	}
	return sub() + sub()
}

func TestAcceptsWhatThePatternMatches(t *testing.T) { // 18.4
	r := rand.New(rand.NewSource(18))
	for range 2000 {
		pattern := randomPattern(r, 4)
		n, p, e := positions(t, pattern)
		if e != api.OK {
			continue
		}
		d, e := Of(p)
		if e != api.OK {
			continue
		}
		if !Right(d) {
			t.Fatalf("Of(%q) is invalid", pattern)
		}
		for range 8 {
			s := ""
			for range r.Intn(12) {
				s += string("abc"[r.Intn(3)])
			}
			if got, want := Run(d, s), match.Match(n, s); got != want {
				t.Fatalf("the automaton of %q and %q: %v", pattern, s, got)
			}
		}
	}
}
