package scope

import (
	"math/rand"
	"slices"
	"testing"

	"porter/api"
	"porter/auto"
	"porter/dfa"
	"porter/labels"
	"porter/least"
	"porter/selector"
)

func of(name string, op int, value string) api.Matcher {
	return api.Matcher{Name: name, Op: op, Value: value}
}

func label(name, value string) api.Label {
	return api.Label{Name: name, Value: value}
}

// scope returns the scope of a selector's text.
func scope(t *testing.T, s string) Scope {
	t.Helper()
	l, f := selector.Parse(s)
	sc, e := Of(l)
	if f.E != api.OK || e != api.OK {
		t.Fatalf("%s: %v, %d", s, f, e)
	}
	return sc
}

func same(a, b Scope) bool {
	return slices.Equal(a.Names, b.Names) && slices.EqualFunc(a.Dfas, b.Dfas, least.Same)
}

func invalid() []Scope {
	any := auto.Any()
	return []Scope{
		{Names: []string{"a"}}, {Dfas: []api.Dfa{any}}, {Names: []string{"a"}, Dfas: []api.Dfa{{}}}, {Names: []string{"b", "a"}, Dfas: []api.Dfa{any, any}}, {Names: []string{"a", "a"}, Dfas: []api.Dfa{any, any}},
		{Names: []string{"a", "b"}, Dfas: []api.Dfa{any}}, {Names: []string{"a", "b"}, Dfas: []api.Dfa{any, {Start: 1, Final: []bool{true}, Block: make([]int, 256), Next: [][]int{{0}}}}},
	}
}

func TestRight(t *testing.T) { // 25.1
	any := auto.Any()
	for i, s := range []Scope{{}, {Names: []string{"a"}, Dfas: []api.Dfa{any}}, {Names: []string{"", "B", "a", "a-b", "\xff"}, Dfas: []api.Dfa{any, any, any, any, any}}, scope(t, `{b="1", a!~"x"}`)} {
		if !Right(s) {
			t.Errorf("the valid scope %d is refused", i)
		}
	}
	for i, s := range invalid() {
		if Right(s) || Has(s, nil) || Has(s, []api.Label{label("a", "1")}) || !Empty(s) || Alike(s, s) || Alike(s, Scope{}) || Alike(Scope{}, s) {
			t.Errorf("the invalid scope %d is accepted", i)
		}
		if l, some := Some(s); len(l) != 0 || some {
			t.Errorf("Some of the invalid scope %d is %v", i, l)
		}
		for _, pair := range [][2]Scope{{s, {}}, {{}, s}, {s, s}} {
			if got, e := And(pair[0], pair[1]); e != api.ErrArg || !same(got, Scope{}) {
				t.Errorf("And of the invalid scope %d: error %d", i, e)
			}
		}
	}
}

func TestHas(t *testing.T) { // 25.1
	s := scope(t, `{a=~"x|y", b!="1", c=""}`)
	for i, c := range []struct {
		l    []api.Label
		want bool
	}{
		{[]api.Label{label("a", "x")}, true}, {nil, false}, {[]api.Label{label("a", "y"), label("b", "2"), label("d", "9")}, true}, {[]api.Label{label("a", "x"), label("b", "1")}, false}, {[]api.Label{label("a", "x"), label("c", "1")}, false}, {[]api.Label{label("a", "z")}, false},
		{[]api.Label{label("a", "x"), label("a", "z")}, true},
	} {
		if got := Has(s, c.l); got != c.want {
			t.Errorf("case %d: Has is %v", i, got)
		}
	}
	if !Has(Scope{}, nil) || !Has(Scope{}, []api.Label{label("a", "1")}) {
		t.Error("the scope without names has not every label map")
	}
}

func TestOf(t *testing.T) { // 25.2
	l := []api.Matcher{of("b", api.Is, "1"), of("a", api.Like, "x|y"), of("b", api.Like, ".*"), of("a", api.Not, "y")}
	s, e := Of(l)
	if e != api.OK || !slices.Equal(s.Names, []string{"a", "b"}) || len(s.Dfas) != 2 {
		t.Fatalf("Of = %v, error %d", s.Names, e)
	}
	for i, name := range s.Names {
		if want, _ := auto.All(selector.Of(l, name)); !least.Same(s.Dfas[i], want) {
			t.Errorf("the automaton of %s is not that of its matchers", name)
		}
	}
	states := of("b", api.Like, "((a{16}){16}){3}")
	for i, c := range []struct {
		l    []api.Matcher
		want api.Errno
	}{
		{nil, api.OK}, {[]api.Matcher{of("a", api.Is, "1"), of("9", api.Is, "")}, api.ErrName}, {[]api.Matcher{states, of("a", 0, "")}, api.ErrArg}, {[]api.Matcher{states, of("c", api.Like, "(")}, api.ErrEnd}, {slices.Repeat([]api.Matcher{of("a", api.Is, "1")}, 65), api.ErrLimit}, {slices.Repeat([]api.Matcher{of("a", api.Is, "1")}, 64), api.OK},
		{[]api.Matcher{states}, api.ErrStates}, {[]api.Matcher{of("a", api.Is, "1"), states}, api.ErrStates}, {[]api.Matcher{of("a", api.Is, "1"), of("a", api.Is, "2")}, api.OK},
	} {
		if s, e := Of(c.l); e != c.want || e != api.OK && !same(s, Scope{}) {
			t.Errorf("case %d: error %d, want %d", i, e, c.want)
		}
	}
}

func TestEmptyAndSome(t *testing.T) { // 25.3
	for _, c := range []struct {
		s    string
		want []api.Label
		some bool
	}{
		{"{}", nil, true}, {`{a=~"a|b", a!="a"}`, []api.Label{label("a", "b")}, true}, {`{a=~"a*", b!="", c="x", d=~"bb|aa|c"}`, []api.Label{label("b", "\x00"), label("c", "x"), label("d", "c")}, true}, {`{a="1", a="2"}`, nil, false}, {`{b=~"[^\\x00-\\xff]"}`, nil, false}, {`{a="1", b!~".*"}`, nil, false},
	} {
		s := scope(t, c.s)
		l, some := Some(s)
		if !slices.Equal(l, c.want) || some != c.some || Empty(s) == c.some {
			t.Errorf("Some of %s is %v, %v", c.s, l, some)
		}
		if some && !Has(s, l) {
			t.Errorf("Some of %s is not in it", c.s)
		}
	}
}

func TestAnd(t *testing.T) { // 25.4
	a, b := scope(t, `{a=~"x.*", c="1"}`), scope(t, `{a=~".*y", b="2"}`)
	both, e := And(a, b)
	if e != api.OK || !slices.Equal(both.Names, []string{"a", "b", "c"}) {
		t.Fatalf("And has the names %q, error %d", both.Names, e)
	}
	if want, _ := auto.All([]api.Matcher{of("a", api.Like, "x.*"), of("a", api.Like, ".*y")}); !least.Same(both.Dfas[0], want) || !least.Same(both.Dfas[1], b.Dfas[1]) || !least.Same(both.Dfas[2], a.Dfas[1]) {
		t.Error("And has the wrong automata")
	}
	// An automaton that is kept is kept as it is.
	word, _ := dfa.Word("ab")
	kept := Scope{Names: []string{"z"}, Dfas: []api.Dfa{word}}
	for _, pair := range [][2]Scope{{a, kept}, {kept, a}} {
		got, e := And(pair[0], pair[1])
		if e != api.OK || len(got.Dfas) != 3 || !least.Same(got.Dfas[2], word) {
			t.Errorf("And does not keep an automaton: error %d", e)
			continue
		}
		got.Dfas[2].Next[0][0], got.Dfas[2].Final[0], got.Dfas[2].Block[0], got.Names[0] = 1, true, 9, "q"
		if fresh, _ := dfa.Word("ab"); !least.Same(word, fresh) || a.Names[0] != "a" {
			t.Fatal("the result shares memory with an argument")
		}
	}
	x, y := scope(t, `{a=~"(a{7})*", a=~"(a{11})*"}`), scope(t, `{a=~"(a{13})*", a=~"(a{5})*"}`)
	if got, e := And(x, y); e != api.ErrStates || !same(got, Scope{}) {
		t.Errorf("And of too many states: error %d", e)
	}
}

func TestAlike(t *testing.T) { // 25.4
	for _, c := range []struct {
		a, b string
		want bool
	}{
		{"{}", "{}", true}, {"{}", `{a=~".*"}`, true}, {`{b=~".*", a="1"}`, `{a=~"1"}`, true}, {`{a="1"}`, "{}", false}, {`{a="1"}`, `{b="1"}`, false}, {`{a="1", b="1"}`, `{a="1"}`, false}, {`{a="1"}`, `{a="1", b="1"}`, false},
		{`{a="1", a="2"}`, `{b="1", b!="1"}`, true}, {`{a="1", a="2"}`, `{a="1"}`, false}, {`{a="1"}`, `{a="1", b!~".*"}`, false}, {`{a="1", a="2", c="1"}`, `{a="1", a="2"}`, true}, {`{a=~"(x|y)*"}`, `{a=~"(x*y*)*"}`, true},
	} {
		x, y := scope(t, c.a), scope(t, c.b)
		if Alike(x, y) != c.want || Alike(y, x) != c.want {
			t.Errorf("Alike of %s and %s is not %v", c.a, c.b, c.want)
		}
	}
	word, _ := dfa.Word("ab")
	if !Alike(Scope{Names: []string{"a"}, Dfas: []api.Dfa{word}}, scope(t, `{a="ab"}`)) {
		t.Error("an automaton that is not minimal is not alike")
	}
}

func TestProperties(t *testing.T) { // 25.5
	r := rand.New(rand.NewSource(25))
	names, values := []string{"a", "b"}, []string{"", "x", "x|y", "x*", ".*", "[^x]+"}
	random := func() []api.Matcher {
		var l []api.Matcher
		for range r.Intn(4) {
			l = append(l, of(names[r.Intn(2)], 1+r.Intn(4), values[r.Intn(len(values))]))
		}
		return l
	}
	for range 300 {
		l, k := random(), random()
		x, e := Of(l)
		y, f := Of(k)
		both, g := And(x, y)
		if e != api.OK || f != api.OK || g != api.OK || !Right(x) || !Right(both) {
			t.Fatalf("%v and %v: errors %d, %d, %d", l, k, e, f, g)
		}
		for range 20 {
			m, _ := labels.Of([]api.Label{label("a", []string{"", "x", "y", "xx", "z"}[r.Intn(5)]), label("b", []string{"", "x", "y"}[r.Intn(3)])})
			if Has(x, m) != selector.Holds(l, m) || Has(both, m) != (Has(x, m) && Has(y, m)) {
				t.Fatalf("%v and %v are wrong for %v", l, k, m)
			}
			if Has(both, m) && Empty(both) {
				t.Fatalf("%v and %v are empty", l, k)
			}
		}
	}
}
