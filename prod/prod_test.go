package prod

import (
	"fmt"
	"math/rand"
	"testing"

	"porter/api"
	"porter/dfa"
	"porter/least"
	"porter/regex"
	"porter/spots"
)

// of returns the automaton of a pattern, not minimized.
func of(t *testing.T, s string) api.Dfa {
	t.Helper()
	n, f := regex.Parse(s)
	p, e := spots.Of(n)
	d, e2 := dfa.Of(p)
	if f.E != api.OK || e != api.OK || e2 != api.OK {
		t.Fatalf("%q: %v, %d, %d", s, f, e, e2)
	}
	return d
}

// random returns a valid automaton without a pattern.
func random(r *rand.Rand) api.Dfa {
	states, classes := 1+r.Intn(5), 1+r.Intn(3)
	d := api.Dfa{Start: r.Intn(states), Block: make([]int, 256)}
	first := 'a' + r.Intn(2)
	for i := range classes - 1 {
		d.Block[first+i] = i + 1
	}
	for range states {
		row := make([]int, classes)
		for class := range row {
			row[class] = r.Intn(states)
		}
		d.Next = append(d.Next, row)
		d.Final = append(d.Final, r.Intn(2) == 0)
	}
	return d
}

// ring returns the automaton of the strings of a's whose length is a multiple of n.
func ring(n int) api.Dfa {
	d := api.Dfa{Block: make([]int, 256)}
	for i := range n {
		d.Next = append(d.Next, []int{(i + 1) % n})
		d.Final = append(d.Final, i == 0)
	}
	return d
}

type operation struct {
	name   string
	do     func(a, b api.Dfa) (api.Dfa, api.Errno)
	accept func(x, y bool) bool
}

func operations() []operation {
	return []operation{
		{"And", And, func(x, y bool) bool { return x && y }}, {"Or", Or, func(x, y bool) bool { return x || y }},
		{"Less", Less, func(x, y bool) bool { return x && !y }}, {"Unlike", Unlike, func(x, y bool) bool { return x != y }},
	}
}

func texts() []string {
	l := []string{""}
	for i := 0; len(l) < 1000; i++ {
		l = append(l, l[i]+"a", l[i]+"b", l[i]+"c")
	}
	return l
}

func TestCombinations(t *testing.T) { // 20.2
	r := rand.New(rand.NewSource(20))
	words := texts()
	for range 300 {
		a, b := random(r), random(r)
		for _, op := range operations() {
			d, e := op.do(a, b)
			if e != api.OK || !least.Same(least.Of(d), d) || !dfa.Right(d) {
				t.Fatalf("%s(%v, %v) = %v, error %d", op.name, a, b, d, e)
			}
			for _, s := range words[:200] {
				if dfa.Run(d, s) != op.accept(dfa.Run(a, s), dfa.Run(b, s)) {
					t.Fatalf("%s(%v, %v) is wrong for %q", op.name, a, b, s)
				}
			}
		}
		not := Not(a)
		if !least.Same(least.Of(not), not) || !dfa.Right(not) {
			t.Fatalf("Not(%v) = %v", a, not)
		}
		for _, s := range words[:200] {
			if dfa.Run(not, s) == dfa.Run(a, s) {
				t.Fatalf("Not(%v) is wrong for %q", a, s)
			}
		}
	}
}

func TestPairs(t *testing.T) { // 20.1
	for _, c := range [][3]int{{1, 1, 1}, {2, 3, 6}, {4, 6, 12}, {63, 65, 4095}, {64, 64, 64}, {4096, 1, 4096}, {4096, 4096, 4096}, {64, 65, 4097}, {4095, 4096, 4097}, {17, 241, 4097}} {
		if got := Pairs(ring(c[0]), ring(c[1])); got != c[2] {
			t.Errorf("Pairs of rings of %d and %d is %d", c[0], c[1], got)
		}
	}
	if got := Pairs(of(t, "a"), of(t, "b")); got != 4 {
		t.Errorf("Pairs of a and b is %d", got)
	}
}

func TestErrors(t *testing.T) { // 20.1, 20.2
	good, bad := ring(3), ring(3)
	bad.Start = 3
	for _, op := range operations() {
		for _, pair := range [][2]api.Dfa{{good, bad}, {bad, good}, {bad, bad}, {{}, ring(4096)}} {
			if d, e := op.do(pair[0], pair[1]); e != api.ErrArg || !least.Same(d, api.Dfa{}) {
				t.Errorf("%s of an invalid automaton: error %d", op.name, e)
			}
			if Pairs(pair[0], pair[1]) != 0 {
				t.Error("an invalid automaton has pairs")
			}
		}
		if d, e := op.do(ring(64), ring(65)); e != api.ErrStates || !least.Same(d, api.Dfa{}) {
			t.Errorf("%s of 4160 pairs: error %d", op.name, e)
		}
		if _, e := op.do(ring(4096), ring(1)); e != api.OK {
			t.Errorf("%s of 4096 pairs: error %d", op.name, e)
		}
	}
	if !least.Same(Not(bad), api.Dfa{}) || !least.Same(Not(api.Dfa{}), api.Dfa{}) {
		t.Error("Not of an invalid automaton is not the zero automaton")
	}
}

func TestProperties(t *testing.T) { // 20.3
	r := rand.New(rand.NewSource(203))
	same := func(what string, a, b api.Dfa, e, f api.Errno) {
		t.Helper()
		if e != api.OK || f != api.OK || !least.Same(a, b) {
			t.Fatalf("%s: %v and %v", what, a, b)
		}
	}
	for range 300 {
		a, b := random(r), random(r)
		and, e := And(a, b)
		or, f := Or(Not(a), Not(b))
		same("not and", Not(and), or, e, f)
		or, e = Or(a, b)
		and, f = And(Not(a), Not(b))
		same("not or", Not(or), and, e, f)
		and, e = And(a, a)
		same("and of itself", and, least.Of(a), e, api.OK)
		unlike, e := Unlike(a, a)
		same("unlike itself", unlike, least.Of(of(t, "[^\\x00-\\xff]")), e, api.OK)
		same("not not", Not(Not(a)), least.Of(a), api.OK, api.OK)
	}
}

func TestArgumentsStay(t *testing.T) {
	a, b := ring(3), random(rand.New(rand.NewSource(5)))
	before := fmt.Sprint(a, b)
	for _, op := range operations() {
		d, _ := op.do(a, b)
		d.Block[0], d.Next[0][0], d.Final[0] = 9, 9, !d.Final[0]
	}
	not := Not(b)
	not.Block[0], not.Next[0][0] = 9, 9
	if fmt.Sprint(a, b) != before {
		t.Error("an argument is changed")
	}
}
