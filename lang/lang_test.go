package lang

import (
	"math"
	"math/rand"
	"strings"
	"testing"

	"porter/api"
	"porter/dfa"
	"porter/least"
	"porter/regex"
	"porter/spots"
)

// of returns the automaton of a pattern, not minimized.
func of(t *testing.T, s string) api.Dfa {
	t.Helper()
	n, f := regex.Parse(s)
	p, e := spots.Of(n)
	d, e2 := dfa.Of(p)
	if f.E != api.OK || e != api.OK || e2 != api.OK {
		t.Fatalf("%q: %v, %d, %d", s, f, e, e2)
	}
	return d
}

// random returns a valid automaton in which few bytes lead anywhere.
func random(r *rand.Rand) api.Dfa {
	states, classes := 1+r.Intn(6), 2+r.Intn(3)
	d := api.Dfa{Start: r.Intn(states), Block: make([]int, 256)}
	for i := range classes - 1 {
		d.Block['a'+i] = i + 1
	}
	for range states {
		row := make([]int, classes)
		for class := range row {
			row[class] = r.Intn(states)
		}
		row[0] = states
		d.Next = append(d.Next, row)
		d.Final = append(d.Final, r.Intn(4) == 0)
	}
	d.Next = append(d.Next, make([]int, classes))
	for class := range classes {
		d.Next[states][class] = states
	}
	d.Final = append(d.Final, false)
	return d
}

// texts returns all strings of a, b and c of at most n bytes, in order.
func texts(n int) []string {
	l, last := []string{""}, []string{""}
	for range n {
		var longer []string
		for _, s := range last {
			longer = append(longer, s+"a", s+"b", s+"c")
		}
		l, last = append(l, longer...), longer
	}
	return l
}

func invalid() []api.Dfa {
	return []api.Dfa{{}, {Final: []bool{true}, Block: make([]int, 256), Next: [][]int{{1}}}}
}

func TestFirstAndOnly(t *testing.T) { // 21.1
	for _, c := range []struct {
		pattern, first  string
		some, onlyOne   bool
		finite          bool
		length, strings int
	}{
		{"a|b*", "", true, false, false, 1, 2}, {"ab", "ab", true, true, true, 2, 1}, {"", "", true, true, true, 0, 1}, {"[^\\x00-\\xff]", "", false, false, true, 0, 0}, {"b|aa", "b", true, false, true, 2, 1},
		{"ba|ab|aab", "ab", true, false, true, 2, 2}, {"[b-z]\\xff|c\\x00", "b\xff", true, false, true, 2, 26}, {"(a|b)*", "", true, false, false, 3, 8}, {"a+", "a", true, false, false, 1024, 1}, {".", "\x00", true, false, true, 1, 256},
		{"[ab]", "a", true, false, true, 1, 2}, {"a?", "", true, false, true, 1, 1}, {"a{16}", strings.Repeat("a", 16), true, true, true, 16, 1}, {"ab[^\\x00-\\xff]|c", "c", true, true, true, 3, 0}, {"a[^\\x00-\\xff]*", "a", true, true, true, 1, 1}, {"(\\x00|\\xff)a", "\x00a", true, false, true, 2, 2},
	} {
		d := of(t, c.pattern)
		if s, ok := First(d); s != c.first || ok != c.some {
			t.Errorf("First of %q is %q, %v", c.pattern, s, ok)
		}
		only := ""
		if c.onlyOne {
			only = c.first
		}
		if s, ok := Only(d); s != only || ok != c.onlyOne {
			t.Errorf("Only of %q is %q, %v", c.pattern, s, ok)
		}
		if Finite(d) != c.finite {
			t.Errorf("Finite of %q is %v", c.pattern, !c.finite)
		}
		if n := Many(d, c.length); n != c.strings {
			t.Errorf("Many of %q with %d is %d", c.pattern, c.length, n)
		}
	}
}

func TestAgainstAllTexts(t *testing.T) { // 21.1, 21.2
	r := rand.New(rand.NewSource(21))
	words := texts(7)
	for range 400 {
		d := random(r)
		var accepted []string
		lengths := make([]int, 8)
		for _, s := range words {
			if dfa.Run(d, s) {
				accepted = append(accepted, s)
				lengths[len(s)]++
			}
		}
		first, some := First(d)
		if some != (len(accepted) > 0) || some && first != accepted[0] {
			t.Fatalf("First of %v is %q, %v", d, first, some)
		}
		only, one := Only(d)
		// With 6 states, whoever accepts a second string accepts one of less than 12 bytes, or a longer one again and again.
		infinite := false
		for n := 7; n < 14; n++ {
			infinite = infinite || Many(d, n) > 0
		}
		if one != (len(accepted) == 1 && !infinite) || one && only != accepted[0] {
			t.Fatalf("Only of %v is %q, %v", d, only, one)
		}
		if Finite(d) == infinite {
			t.Fatalf("Finite of %v is %v", d, !infinite)
		}
		for n, want := range lengths {
			if Many(d, n) != want {
				t.Fatalf("Many of %v with %d is %d, want %d", d, n, Many(d, n), want)
			}
		}
	}
}

func TestMany(t *testing.T) { // 21.2
	all := of(t, ".*")
	for n, want := range map[int]int{0: 1, 1: 256, 7: 1 << 56, 8: math.MaxInt, 1024: math.MaxInt, 1025: 0, -1: 0, math.MinInt: 0, math.MaxInt: 0} {
		if got := Many(all, n); got != want {
			t.Errorf("Many with %d is %d", n, got)
		}
	}
	if got := Many(of(t, "[ab]*"), 62); got != 1<<62 {
		t.Errorf("2^62 strings are %d", got)
	}
	if got := Many(of(t, "[ab]*"), 63); got != math.MaxInt {
		t.Errorf("2^63 strings are %d", got)
	}
	if got := Many(of(t, "a*b*"), 1024); got != 1025 {
		t.Errorf("Many of a*b* with 1024 is %d", got)
	}
}

func TestInvalid(t *testing.T) { // 21.1 to 21.3
	good := of(t, "a")
	for _, d := range invalid() {
		s, ok := First(d)
		o, one := Only(d)
		if s != "" || ok || o != "" || one || !Finite(d) || Many(d, 0) != 0 || Many(d, 1) != 0 {
			t.Errorf("the invalid automaton %v has a language", d)
		}
		for _, pair := range [][2]api.Dfa{{d, good}, {good, d}, {d, d}} {
			if in, e := Inside(pair[0], pair[1]); in || e != api.ErrArg {
				t.Errorf("Inside of an invalid automaton: %v, error %d", in, e)
			}
			if Alike(pair[0], pair[1]) {
				t.Error("an invalid automaton is alike")
			}
		}
	}
}

// ring returns the automaton of the strings whose length is a multiple of n.
func ring(n int) api.Dfa {
	d := api.Dfa{Block: make([]int, 256)}
	for i := range n {
		d.Next = append(d.Next, []int{(i + 1) % n})
		d.Final = append(d.Final, i == 0)
	}
	return d
}

func TestInsideAndAlike(t *testing.T) { // 21.3
	for _, c := range []struct {
		a, b           string
		inside, beside bool
	}{
		{"a", "a|b", true, false}, {"(a|b)*", "(a*b*)*", true, true}, {"a*", "a+", false, true}, {"a", "b", false, false}, {"[^\\x00-\\xff]", "a", true, false}, {"a+", "aa*", true, true},
	} {
		a, b := of(t, c.a), of(t, c.b)
		x, e := Inside(a, b)
		y, f := Inside(b, a)
		if x != c.inside || y != c.beside || e != api.OK || f != api.OK {
			t.Errorf("Inside of %q and %q: %v, %d, %v, %d", c.a, c.b, x, e, y, f)
		}
		if Alike(a, b) != (x && y) {
			t.Errorf("Alike of %q and %q is %v", c.a, c.b, !(x && y))
		}
	}
	if in, e := Inside(ring(64), ring(65)); in || e != api.ErrStates {
		t.Errorf("Inside of 4160 pairs: %v, error %d", in, e)
	}
	if Alike(ring(64), ring(65)) || !Alike(ring(4096), ring(4096)) {
		t.Error("Alike has a limit on pairs")
	}
	if in, e := Inside(ring(65*63), ring(65)); !in || e != api.OK {
		t.Errorf("Inside of rings: %v, error %d", in, e)
	}
}

func TestProperties(t *testing.T) { // 21.4
	r := rand.New(rand.NewSource(214))
	ones := 0
	for range 2000 {
		d := random(r)
		if s, ok := Only(d); ok {
			ones++
			word, e := dfa.Word(s)
			if first, some := First(d); first != s || !some || e != api.OK || !Alike(d, word) {
				t.Fatalf("Only of %v is %q", d, s)
			}
		}
		b := random(r)
		x, _ := Inside(d, b)
		y, _ := Inside(b, d)
		if (x && y) != Alike(d, b) || Alike(d, b) != least.Same(least.Of(d), least.Of(b)) {
			t.Fatalf("%v and %v: %v, %v", d, b, x, y)
		}
	}
	if ones < 20 {
		t.Errorf("only %d automata of one string", ones)
	}
}

// TestLongWays: strings may be almost as long as there are states.
func TestLongWays(t *testing.T) { // 21.1
	d := ring(4095)
	d.Final = make([]bool, 4095)
	d.Final[4094] = true
	if s, ok := First(d); len(s) != 4094 || !ok {
		t.Errorf("First has %d bytes", len(s))
	}
	if _, ok := Only(d); ok || Finite(d) {
		t.Error("a ring has one string")
	}
	d.Block['a'] = 1
	for i := range d.Next {
		d.Next[i] = []int{4095, i + 1}
	}
	d.Next[4094][1] = 4095
	d.Next, d.Final = append(d.Next, []int{4095, 4095}), append(d.Final, false)
	if s, ok := Only(d); s != strings.Repeat("a", 4094) || !ok || !Finite(d) {
		t.Errorf("Only has %d bytes, %v", len(s), ok)
	}
}
