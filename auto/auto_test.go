package auto

import (
	"fmt"
	"math/rand"
	"strings"
	"testing"

	"porter/api"
	"porter/dfa"
	"porter/lang"
	"porter/least"
	"porter/matcher"
	"porter/prod"
)

func of(op int, value string) api.Matcher {
	return api.Matcher{Name: "a", Op: op, Value: value}
}

func texts() []string {
	l := []string{"", strings.Repeat("a", 1024), "\xff"}
	last := []string{""}
	for range 4 {
		var longer []string
		for _, s := range last {
			longer = append(longer, s+"a", s+"b", s+"c")
		}
		l, last = append(l, longer...), longer
	}
	return l
}

func TestAny(t *testing.T) { // 24.1
	d := Any()
	if !dfa.Right(d) || !least.Same(least.Of(d), d) || len(d.Next) != 1 || !d.Final[0] {
		t.Errorf("Any is %v", d)
	}
	d.Next[0][0], d.Final[0] = 7, false
	if !dfa.Right(Any()) || !Any().Final[0] {
		t.Error("the results of Any share memory")
	}
}

func TestOf(t *testing.T) { // 24.1
	for _, op := range []int{api.Is, api.Not, api.Like, api.Unlike} {
		for _, value := range []string{"", "a", "ab", "a|b", "(ab)*", "a*", ".*", "[^a]", strings.Repeat("a", 256)} {
			m := of(op, value)
			d, e := Of(m)
			if e != api.OK || !dfa.Right(d) || !least.Same(least.Of(d), d) {
				t.Fatalf("Of(%v): error %d, or not minimal", m, e)
			}
			for _, s := range texts() {
				if dfa.Run(d, s) != matcher.Test(m, s) {
					t.Errorf("Of(%v) is wrong for %.9q", m, s)
				}
			}
		}
	}
}

// large is a pattern whose automaton has n states and a few more, for n a power of 2.
func large(bytes string, n int) string {
	k := 0
	for 2<<k < n {
		k++
	}
	return fmt.Sprintf("[%s]*%c[%s]{%d}", bytes, bytes[0], bytes, k)
}

func TestOfRefuses(t *testing.T) { // 24.1
	for _, c := range []struct {
		m    api.Matcher
		want api.Errno
	}{
		{api.Matcher{Op: api.Is}, api.ErrName}, {of(0, "a"), api.ErrArg}, {of(5, "("), api.ErrArg}, {of(api.Is, strings.Repeat("a", 1025)), api.ErrLimit}, {of(api.Like, strings.Repeat("a", 257)), api.ErrLimit}, {of(api.Like, "("), api.ErrEnd}, {of(api.Unlike, ")"), api.ErrForm}, {of(api.Unlike, "a{17}"), api.ErrLimit},
		{of(api.Like, "((a{16}){16}){3}"), api.ErrStates}, {of(api.Unlike, "((a{16}){16}){3}"), api.ErrStates}, {of(api.Like, large("ab", 4096)), api.ErrStates}, {of(api.Unlike, large("ab", 4096)), api.ErrStates}, {of(api.Like, large("ab", 2048)), api.OK},
	} {
		d, e := Of(c.m)
		if e != c.want || e != api.OK && !least.Same(d, api.Dfa{}) {
			t.Errorf("Of(%.40v): error %d, want %d", c.m, e, c.want)
		}
		all, f := All([]api.Matcher{of(api.Like, ".*"), c.m, of(api.Is, "a")})
		if f != c.want || f != api.OK && !least.Same(all, api.Dfa{}) {
			t.Errorf("All with %.40v: error %d, want %d", c.m, f, c.want)
		}
	}
}

func TestAll(t *testing.T) { // 24.2
	if d, e := All(nil); e != api.OK || !least.Same(d, Any()) {
		t.Errorf("All of nothing is %v, error %d", d, e)
	}
	d, e := All([]api.Matcher{of(api.Like, "a|b"), of(api.Not, "a")})
	if only, one := lang.Only(d); e != api.OK || only != "b" || !one {
		t.Errorf("the example's automaton accepts %q, %v", only, one)
	}
	r := rand.New(rand.NewSource(24))
	values := []string{"", "a", "ab", "a|b|c", "(ab)*", "a.*", ".*b", "[^a]*", "a*b*"}
	for range 300 {
		var l []api.Matcher
		for range r.Intn(4) {
			m := of(1+r.Intn(4), values[r.Intn(len(values))])
			m.Name = []string{"a", "b"}[r.Intn(2)]
			l = append(l, m)
		}
		d, e := All(l)
		if e != api.OK || !least.Same(least.Of(d), d) {
			t.Fatalf("All(%v): error %d", l, e)
		}
		for _, s := range texts() {
			want := true
			for _, m := range l {
				want = want && matcher.Test(m, s)
			}
			if dfa.Run(d, s) != want {
				t.Fatalf("All(%v) is wrong for %.9q", l, s)
			}
		}
		// 24.3
		k := r.Intn(len(l) + 1)
		x, _ := All(l[:k])
		y, _ := All(l[k:])
		both, e := prod.And(x, y)
		if e != api.OK || !lang.Alike(both, d) {
			t.Fatalf("All of %v and of %v: not what both accept", l[:k], l[k:])
		}
		if in, e := lang.Inside(d, x); !in || e != api.OK {
			t.Fatalf("more matchers than %v add strings", l[:k])
		}
	}
}

// TestAllInOrder: the first error is returned, also if it is one of combining automata.
func TestAllInOrder(t *testing.T) { // 24.2
	for i, c := range []struct {
		l    []api.Matcher
		want api.Errno
	}{
		{[]api.Matcher{of(api.Like, "("), of(0, "")}, api.ErrEnd}, {[]api.Matcher{of(0, ""), of(api.Like, "(")}, api.ErrArg},
		{[]api.Matcher{of(api.Like, "(a{7})*"), of(api.Like, "(a{11})*"), of(api.Like, "(a{13})*")}, api.OK},
		{[]api.Matcher{of(api.Like, "(a{7})*"), of(api.Like, "(a{11})*"), of(api.Like, "(a{13})*"), of(api.Like, "(a{5})*")}, api.ErrStates},
		{[]api.Matcher{of(api.Like, "(a{7})*"), of(api.Like, "(a{11})*"), of(api.Like, "(a{13})*"), of(api.Like, "(a{5})*"), of(0, "")}, api.ErrStates},
		{[]api.Matcher{of(api.Like, "(a{7})*"), of(api.Like, "(a{11})*"), of(api.Like, "(a{13})*"), of(0, ""), of(api.Like, "(a{5})*")}, api.ErrArg},
		{[]api.Matcher{of(api.Is, "a"), of(api.Like, "(a{7})*"), of(api.Like, "(a{11})*"), of(api.Like, "(a{13})*"), of(api.Like, "(a{5})*")}, api.OK},
	} {
		if d, e := All(c.l); e != c.want || e != api.OK && !least.Same(d, api.Dfa{}) {
			t.Errorf("case %d: error %d, want %d", i, e, c.want)
		}
	}
}
