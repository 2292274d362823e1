package least

import (
	"fmt"
	"math/rand"
	"slices"
	"strings"
	"testing"

	"porter/api"
	"porter/blocks"
	"porter/dfa"
	"porter/regex"
	"porter/spots"
)

// of returns the automaton of a pattern, not minimized.
func of(t *testing.T, s string) api.Dfa {
	t.Helper()
	n, f := regex.Parse(s)
	p, e := spots.Of(n)
	d, e2 := dfa.Of(p)
	if f.E != api.OK || e != api.OK || e2 != api.OK {
		t.Fatalf("%q: %v, %d, %d", s, f, e, e2)
	}
	return d
}

// random returns a valid automaton without a pattern.
func random(r *rand.Rand) api.Dfa {
	states, classes := 1+r.Intn(8), 1+r.Intn(3)
	d := api.Dfa{Start: r.Intn(states), Block: make([]int, 256)}
	for i := range classes - 1 {
		d.Block['a'+i] = i + 1
	}
	for range states {
		row := make([]int, classes)
		for class := range row {
			row[class] = r.Intn(states)
		}
		d.Next = append(d.Next, row)
		d.Final = append(d.Final, r.Intn(3) == 0)
	}
	return d
}

// defined returns the minimal automaton by the definition: pairs of states are told apart until nothing changes.
func defined(d api.Dfa) api.Dfa {
	n := len(d.Next)
	apart := make([][]bool, n)
	for i := range apart {
		apart[i] = make([]bool, n)
		for k := range apart[i] {
			apart[i][k] = d.Final[i] != d.Final[k]
		}
	}
	for changed := true; changed; {
		changed = false
		for i := range n {
			for k := range n {
				for class := range d.Next[i] {
					if !apart[i][k] && apart[d.Next[i][class]][d.Next[k][class]] {
						apart[i][k], changed = true, true
					}
				}
			}
		}
	}
	kind := func(state int) int { return slices.Index(apart[state], false) }
	numbers := map[int]int{kind(d.Start): 0}
	states := []int{kind(d.Start)}
	for i := 0; i < len(states); i++ {
		for _, next := range d.Next[states[i]] {
			if _, seen := numbers[kind(next)]; !seen {
				numbers[kind(next)] = len(states)
				states = append(states, kind(next))
			}
		}
	}
	m := api.Dfa{Block: make([]int, 256)}
	columns := map[string]int{}
	for b := range 256 {
		column := ""
		for _, state := range states {
			column += fmt.Sprint(numbers[kind(d.Next[state][d.Block[b]])], " ")
		}
		if _, seen := columns[column]; !seen {
			columns[column] = len(columns)
		}
		m.Block[b] = columns[column]
	}
	for _, state := range states {
		m.Final = append(m.Final, d.Final[state])
		row := make([]int, len(columns))
		for b := range 256 {
			row[m.Block[b]] = numbers[kind(d.Next[state][d.Block[b]])]
		}
		m.Next = append(m.Next, row)
	}
	return m
}

func TestOf(t *testing.T) { // 19.1
	for _, c := range []struct {
		pattern     string
		final, next string
	}{
		{"a*", "[true false]", "[[1 0] [1 1]]"}, {".*", "[true]", "[[0]]"}, {"[^\\x00-\\xff]", "[false]", "[[0]]"}, {"", "[true false]", "[[1] [1]]"}, {"ab|ac", "[false false false true]", "[[1 2 1] [1 1 1] [1 1 3] [1 1 1]]"}, {"[ab]|a", "[false false true]", "[[1 2] [1 1] [1 1]]"},
	} {
		m := Of(of(t, c.pattern))
		if m.Start != 0 || fmt.Sprint(m.Final) != c.final || fmt.Sprint(m.Next) != c.next {
			t.Errorf("%q: final %v, next %v", c.pattern, m.Final, m.Next)
		}
	}
	r := rand.New(rand.NewSource(19))
	for range 3000 {
		d := random(r)
		if got, want := Of(d), defined(d); !Same(got, want) {
			t.Fatalf("Of(%v) = %v, want %v", d, got, want)
		}
	}
}

func TestReached(t *testing.T) { // 19.1
	r := rand.New(rand.NewSource(191))
	for range 500 {
		d := random(r)
		var want []int
		for state := range d.Next {
			frontier := []int{d.Start}
			for range d.Next {
				for _, s := range slices.Clone(frontier) {
					frontier = append(frontier, d.Next[s]...)
				}
				slices.Sort(frontier)
				frontier = slices.Compact(frontier)
			}
			if slices.Contains(frontier, state) {
				want = append(want, state)
			}
		}
		if got := Reached(d); !slices.Equal(got, want) {
			t.Fatalf("Reached(%v) = %v", d, got)
		}
	}
}

func TestInvalid(t *testing.T) { // 19.1
	good := of(t, "a*b")
	bad := good
	bad.Start = 9
	for _, d := range []api.Dfa{{}, bad, {Final: []bool{true}, Next: [][]int{{0}}}} {
		if !Same(Of(d), api.Dfa{}) || len(Reached(d)) != 0 {
			t.Errorf("the invalid automaton %v has results", d)
		}
	}
}

func TestSame(t *testing.T) { // 19.2
	base := func() api.Dfa {
		return api.Dfa{Start: 1, Final: []bool{true, false}, Block: []int{0, 1}, Next: [][]int{{0, 1}, {1}}}
	}
	for i, change := range []func(*api.Dfa){
		func(d *api.Dfa) { d.Start = 0 }, func(d *api.Dfa) { d.Final[1] = true }, func(d *api.Dfa) { d.Final = d.Final[1:] }, func(d *api.Dfa) { d.Block[1] = 0 }, func(d *api.Dfa) { d.Block = nil },
		func(d *api.Dfa) { d.Next[0][1] = 0 }, func(d *api.Dfa) { d.Next[1] = nil }, func(d *api.Dfa) { d.Next = d.Next[:1] }, func(d *api.Dfa) { *d = api.Dfa{} },
	} {
		a, b := base(), base()
		if !Same(a, b) {
			t.Fatal("equal automata differ")
		}
		change(&b)
		if Same(a, b) || Same(b, a) {
			t.Errorf("change %d is not seen", i)
		}
	}
	if !Same(api.Dfa{}, api.Dfa{Final: []bool{}, Block: []int{}, Next: [][]int{}}) || !Same(api.Dfa{Next: [][]int{nil}}, api.Dfa{Next: [][]int{{}}}) {
		t.Error("empty lists differ")
	}
}

func TestProperties(t *testing.T) { // 19.3
	r := rand.New(rand.NewSource(193))
	texts := []string{""}
	for i := 0; len(texts) < 400; i++ {
		texts = append(texts, texts[i]+"a", texts[i]+"b", texts[i]+"c")
	}
	for range 1000 {
		a, b := random(r), random(r)
		x, y := Of(a), Of(b)
		if !dfa.Right(x) || len(x.Next) > len(a.Next) || !Same(Of(x), x) || blocks.Count(x.Block) != len(x.Next[0]) {
			t.Fatalf("Of(%v) = %v", a, x)
		}
		alike := true // automata of up to 8 states differ, if they do, at a text of at most 14 bytes
		for _, s := range texts {
			if dfa.Run(a, s) != dfa.Run(x, s) {
				t.Fatalf("Of(%v) differs at %q", a, s)
			}
			alike = alike && dfa.Run(a, s) == dfa.Run(b, s)
		}
		if !alike && Same(x, y) {
			t.Fatalf("%v and %v have the same minimal automaton", a, b)
		}
	}
	for _, pair := range [][2]string{{"(a|b)*", "(a*b*)*"}, {"a+", "aa*"}, {"a|ab|abb", "a(b{0,2})"}, {"(ab)*a", "a(ba)*"}, {"[ab]*a[ab]{5}", "([ab]*a|)[ab]*a[ab]{5}"}} {
		if !Same(Of(of(t, pair[0])), Of(of(t, pair[1]))) {
			t.Errorf("%q and %q have different minimal automata", pair[0], pair[1])
		}
	}
}

// TestLarge: great automata are minimized, with many rounds of splitting and with many classes.
func TestLarge(t *testing.T) { // 19.1
	every := make([]byte, 1024)
	for i := range every {
		every[i] = byte(i * 7)
	}
	for _, s := range []string{strings.Repeat("a", 1024), string(every)} {
		d, _ := dfa.Word(s)
		if m := Of(d); len(m.Next) != 1026 || !dfa.Run(m, s) || dfa.Run(m, s[1:]) {
			t.Errorf("the word's minimal automaton has %d states", len(m.Next))
		}
	}
	if m := Of(of(t, "[ab]*a[ab]{10}")); len(m.Next) != 2049 {
		t.Errorf("%d states", len(m.Next))
	}
}

func TestArgumentsStay(t *testing.T) {
	d := random(rand.New(rand.NewSource(9)))
	before := fmt.Sprint(d)
	m := Of(d)
	for i := range m.Block {
		m.Block[i] = 77
	}
	m.Next[0][0], m.Final[0] = 77, !m.Final[0]
	if fmt.Sprint(d) != before {
		t.Error("the argument is changed")
	}
}
