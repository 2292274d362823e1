package rewrite

import (
	"fmt"
	"math/rand"
	"slices"
	"strings"
	"testing"

	"porter/api"
	"porter/auto"
	"porter/lang"
	"porter/matcher"
	"porter/selector"
)

func of(name string, op int, value string) api.Matcher {
	return api.Matcher{Name: name, Op: op, Value: value}
}

func parse(t *testing.T, s string) []api.Matcher {
	t.Helper()
	l, f := selector.Parse(s)
	if f.E != api.OK {
		t.Fatalf("%s: %v", s, f)
	}
	return l
}

func TestOne(t *testing.T) { // 26.1
	for _, c := range []struct {
		l, want string
		e       api.Errno
	}{
		{"{}", "{}", api.OK}, {`{a="1"}`, `{a="1"}`, api.OK}, {`{a=""}`, `{a=""}`, api.OK}, {`{a=~".*"}`, "{}", api.OK}, {`{a!~"[^\\x00-\\xff]"}`, "{}", api.OK}, {`{a=~"b"}`, `{a="b"}`, api.OK}, {`{a=~"()*"}`, `{a=""}`, api.OK}, {`{a!~"[^\\x00-\\xff]", a!~"x"}`, `{a!~"x"}`, api.OK},
		{`{a!="a", a=~"a|b"}`, `{a="b"}`, api.OK}, {`{a=~"a.*", a=~"ab.*"}`, `{a=~"ab.*"}`, api.OK}, {`{a=~"ab.*", a=~"a.*"}`, "{}", api.ErrArg}, {`{a="1", a="2"}`, "{}", api.ErrEmpty}, {`{a=~"[^\\x00-\\xff]"}`, "{}", api.ErrEmpty},
		{`{a!="", a!="x", a=~".+"}`, `{a!="", a!="x"}`, api.OK}, {`{a!="x", a=~".+"}`, `{a!="x", a=~".+"}`, api.OK}, {`{a!="x", a=~"[ab]"}`, `{a=~"[ab]"}`, api.OK}, {`{a=~"a*", a=~"a*|b", a=~"b|a*"}`, `{a=~"a*"}`, api.OK}, {`{a=~"(a*b*)*", a=~"(a|b)*"}`, `{a=~"(a*b*)*"}`, api.OK},
		{`{a="1", b="1"}`, "{}", api.ErrArg}, {`{a="1", a="1"}`, "{}", api.ErrArg}, {`{a=~"x", a="y"}`, "{}", api.ErrArg},
	} {
		got, e := One(parse(t, c.l))
		if selector.Text(got) != c.want || e != c.e {
			t.Errorf("One of %s is %s, error %d", c.l, selector.Text(got), e)
		}
	}
}

func TestOneRefuses(t *testing.T) { // 26.1
	states := of("a", api.Like, "((a{16}){16}){3}")
	for i, c := range []struct {
		l    []api.Matcher
		want api.Errno
	}{
		{[]api.Matcher{of("a", 9, ""), of("a", 0, "")}, api.ErrArg}, {[]api.Matcher{of("9", api.Is, "")}, api.ErrName}, {[]api.Matcher{of("a", api.Is, ""), of("a", 7, "")}, api.ErrArg}, {[]api.Matcher{of("a", api.Like, "("), of("a", api.Unlike, ")")}, api.ErrEnd}, {[]api.Matcher{of("a", api.Like, ")"), of("a", api.Unlike, "(")}, api.ErrForm},
		{[]api.Matcher{states, of("a", api.Unlike, "(")}, api.ErrEnd}, {[]api.Matcher{states}, api.ErrStates}, {[]api.Matcher{of("a", api.Is, "1"), of("a", api.Is, "2"), states}, api.ErrStates},
		{[]api.Matcher{of("a", api.Is, strings.Repeat("x", 1025))}, api.ErrLimit}, {[]api.Matcher{of("a", api.Is, strings.Repeat("x", 1024))}, api.OK},
	} {
		if l, e := One(c.l); e != c.want || e != api.OK && len(l) != 0 {
			t.Errorf("case %d: error %d, want %d", i, e, c.want)
		}
	}
}

// TestOnlyValueTooLong: a single string that no matcher Is can have leaves the matchers.
func TestOnlyValueTooLong(t *testing.T) { // 26.1
	// Every pattern tells one stretch of the string; together they have 496 + 1 + 384 + 1 + 256 bytes.
	l := selector.Order([]api.Matcher{of("a", api.Like, "((a{16}){15}a{8}){2}c.*"), of("a", api.Like, "[^c]*c(b{16}){16}(b{16}){8}d.*"), of("a", api.Like, "[^d]*d(e{16}){16}")})
	d, e := auto.All(l)
	if s, one := lang.Only(d); e != api.OK || !one || len(s) != 1138 {
		t.Fatalf("a string of %d bytes, %v, error %d", len(s), one, e)
	}
	if got, e := One(l); e != api.OK || !slices.Equal(got, l) {
		t.Errorf("%v, error %d", got, e)
	}
}

// TestLongestOnlyValue: a single string of 1024 bytes is a value still.
func TestLongestOnlyValue(t *testing.T) { // 26.1
	l := selector.Order([]api.Matcher{of("a", api.Like, "((a{16}){15}a{8}){2}c.*"), of("a", api.Like, "[^c]*c(b{16}){16}b{13}d.*"), of("a", api.Like, "[^d]*d(e{16}){16}e")})
	want := strings.Repeat("a", 496) + "c" + strings.Repeat("b", 269) + "d" + strings.Repeat("e", 257)
	if got, e := One(l); e != api.OK || !slices.Equal(got, []api.Matcher{of("a", api.Is, want)}) {
		t.Errorf("%v, error %d", got, e)
	}
	longer := selector.Order(append(slices.Clone(l[:2]), of("a", api.Like, "[^d]*d(e{16}){16}ee")))
	if got, e := One(longer); e != api.OK || len(got) != 3 {
		t.Errorf("%v, error %d", got, e)
	}
}

func TestEmit(t *testing.T) { // 26.2
	for _, c := range []struct {
		asked, held, want string
		e                 api.Errno
	}{
		{"{}", "{}", "{}", api.OK}, {`{a=~"a|b"}`, `{a!="a"}`, `{a="b"}`, api.OK}, {`{a=~"a.*"}`, `{a=~"ab.*"}`, `{a=~"ab.*"}`, api.OK}, {`{a="1"}`, `{a="2"}`, "{}", api.ErrEmpty},
		{`{job=~"a.*"}`, `{env="prod"}`, `{env="prod", job=~"a.*"}`, api.OK}, {`{job=~"a.*"}`, `{env="prod", job=~"ab|b"}`, `{env="prod", job="ab"}`, api.OK}, {`{env!="prod"}`, `{env="prod"}`, "{}", api.ErrEmpty},
		{`{b="1", a="1", b="1"}`, `{a="1", B!=""}`, `{B!="", a="1", b="1"}`, api.OK}, {`{z=~".*"}`, `{y=~".*", x="1"}`, `{x="1"}`, api.OK}, {`{a=~"((a{16}){16}){3}"}`, "{}", "{}", api.ErrStates}, {`{a=~"((a{16}){16}){3}", b="1"}`, `{b="2"}`, "{}", api.ErrStates}, {`{b=~"((a{16}){16}){3}", a="1"}`, `{a="2"}`, "{}", api.ErrEmpty},
	} {
		asked, held := parse(t, c.asked), parse(t, c.held)
		got, e := Emit(asked, held)
		if selector.Text(got) != c.want || e != c.e {
			t.Errorf("Emit(%s, %s) is %s, error %d", c.asked, c.held, selector.Text(got), e)
		}
		if selector.Text(asked) != c.asked || selector.Text(held) != c.held {
			t.Error("an argument is changed")
		}
	}
}

func TestEmitRefuses(t *testing.T) { // 26.2
	many := func(n int) []api.Matcher {
		var l []api.Matcher
		for i := range n {
			l = append(l, of(fmt.Sprintf("n%03d", i), api.Is, "v"))
		}
		return l
	}
	for i, c := range []struct {
		asked, held []api.Matcher
		want        api.Errno
	}{
		{many(64), many(64), api.OK}, {many(65), nil, api.ErrLimit}, {many(40), append(many(60), of("x", 0, "")), api.ErrArg}, {many(64), []api.Matcher{of("a", 0, "")}, api.ErrLimit},
		{[]api.Matcher{of("b", 0, "")}, []api.Matcher{of("a", api.Like, "(")}, api.ErrEnd}, {[]api.Matcher{of("a", api.Like, "(")}, []api.Matcher{of("", 0, "")}, api.ErrName}, {[]api.Matcher{of("a", api.Is, "1"), of("a", api.Is, "2")}, []api.Matcher{of("b", api.Like, ")")}, api.ErrForm},
	} {
		if l, e := Emit(c.asked, c.held); e != c.want || e != api.OK && len(l) != 0 {
			t.Errorf("case %d: error %d, want %d", i, e, c.want)
		}
	}
}

// TestKeptWhereNothingIsKnown: a matcher stays if the automaton without it has too many states.
func TestKeptWhereNothingIsKnown(t *testing.T) { // 26.1, step 3
	// The first matcher alone keeps the products small. It is redundant, but without it that is not found out: each
	// other one excludes a letter, and the multiples of 5, 7, 11 and 13 have a product of 5005 states.
	l := parse(t, `{a=~"()|[b-g]", a=~"(a{11})*|[b-df-g]", a=~"(a{13})*|[b-eg]", a=~"(a{5})*|[b-f]", a=~"(a{7})*|[bce-g]", a=~"[bd-g]|"}`)
	if got, e := One(l); e != api.OK || !slices.Equal(got, l) {
		t.Errorf("%s, error %d", selector.Text(got), e)
	}
	if _, e := auto.All(l[1:]); e != api.ErrStates {
		t.Errorf("without the first matcher: error %d", e)
	}
	if d, e := auto.All(l[2:]); e != api.OK || lang.Many(d, 0)+lang.Many(d, 1) != 3 {
		t.Errorf("without the first two matchers: error %d", e)
	}
}

func TestProperties(t *testing.T) { // 26.3
	r := rand.New(rand.NewSource(26))
	names, values := []string{"a", "b"}, []string{"", "x", "y", "x|y", "x*", ".*", "[^x]+", "xx?"}
	random := func() []api.Matcher {
		var l []api.Matcher
		for range r.Intn(4) {
			l = append(l, of(names[r.Intn(2)], 1+r.Intn(4), values[r.Intn(len(values))]))
		}
		return l
	}
	tries := []string{"", "x", "y", "xx", "xy", "z", "xxx", "x|y", ".*"}
	for range 500 {
		asked, held := random(), random()
		got, e := Emit(asked, held)
		if e != api.OK && e != api.ErrEmpty {
			t.Fatalf("Emit(%v, %v): error %d", asked, held, e)
		}
		for _, x := range tries {
			for _, y := range tries {
				m := []api.Label{{Name: "a", Value: x}, {Name: "b", Value: y}}
				both := selector.Holds(asked, m) && selector.Holds(held, m)
				if both != (e == api.OK && selector.Holds(got, m)) {
					t.Fatalf("Emit(%v, %v) = %v, error %d, is wrong for %q and %q", asked, held, got, e, x, y)
				}
			}
		}
		if e != api.OK {
			continue
		}
		if again, e := Emit(got, nil); !slices.Equal(again, got) || e != api.OK {
			t.Fatalf("the enforced selector of %v is %v", got, again)
		}
		for i, m := range got {
			if i > 0 && matcher.Compare(got[i-1], m) >= 0 {
				t.Fatalf("%v is not in order", got)
			}
			with, _ := auto.All(selector.Of(got, m.Name))
			without, _ := auto.All(selector.Of(slices.Delete(slices.Clone(got), i, i+1), m.Name))
			if lang.Alike(with, without) {
				t.Fatalf("%v in %v is redundant", m, got)
			}
		}
	}
}

func TestListsShareNothing(t *testing.T) {
	for _, s := range []string{`{a!="x", a=~".+", a=~"[ab]*"}`, `{a!="x", a=~"[xy]*"}`, `{a!="x"}`} {
		l := parse(t, s)
		before := slices.Clone(l)
		got, _ := One(l)
		for i := range got {
			got[i].Value = "changed"
		}
		_ = append(got[:1], of("z", 1, "z"))
		if !slices.Equal(l, before) {
			t.Errorf("the result for %s shares memory with the argument", s)
		}
	}
}
