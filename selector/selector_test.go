package selector

import (
	"fmt"
	"math"
	"math/rand"
	"slices"
	"strings"
	"testing"

	"porter/api"
	"porter/matcher"
)

type list = []api.Matcher

func of(name string, op int, value string) api.Matcher {
	return api.Matcher{Name: name, Op: op, Value: value}
}

func label(name, value string) api.Label {
	return api.Label{Name: name, Value: value}
}

// many returns n matchers.
func many(n int) list {
	var l list
	for i := range n {
		l = append(l, of(fmt.Sprintf("n%03d", i), api.Is, "v"))
	}
	return l
}

func fault(e api.Errno, at int) api.Fault {
	return api.Fault{E: e, At: at}
}

func TestRight(t *testing.T) { // 23.1
	good, bad := of("a", api.Is, "1"), of("a", api.Like, "(")
	for i, c := range []struct {
		l    list
		want api.Fault
	}{
		{nil, api.Fault{}}, {list{good, good}, api.Fault{}}, {many(64), api.Fault{}}, {many(65), fault(api.ErrLimit, 64)}, {append(list{bad}, many(64)...), fault(api.ErrLimit, 64)},
		{list{bad, good}, fault(api.ErrEnd, 0)}, {list{good, good, of("", 0, ""), bad}, fault(api.ErrName, 2)}, {list{good, of("a", 7, "")}, fault(api.ErrArg, 1)}, {append(many(63), of("a", api.Unlike, "*")), fault(api.ErrForm, 63)},
	} {
		if got := Right(c.l); got != c.want {
			t.Errorf("case %d: Right is %v, want %v", i, got, c.want)
		}
	}
}

func TestHolds(t *testing.T) { // 23.1
	m := []api.Label{label("a", "1"), label("b", "2")}
	for i, c := range []struct {
		l    list
		want bool
	}{
		{nil, true}, {list{of("a", api.Is, "1"), of("b", api.Like, "[23]"), of("c", api.Is, "")}, true}, {list{of("a", api.Is, "1"), of("b", api.Not, "2")}, false}, {list{of("b", api.Not, "2"), of("a", api.Is, "1")}, false},
		{list{of("a", api.Is, "1"), of("a", api.Is, "2")}, false}, {list{of("a", api.Is, "1"), of("9", api.Is, "")}, false}, {list{of("a", 9, "1")}, false}, {many(65), false}, {append(list{of("a", api.Is, "1")}, slices.Repeat(list{of("c", api.Is, "")}, 99)...), true},
	} {
		if got := Holds(c.l, m); got != c.want {
			t.Errorf("case %d: Holds is %v", i, got)
		}
	}
}

func TestOrderNamesOf(t *testing.T) { // 23.2
	l := list{of("b", api.Is, "1"), of("a", api.Like, "x"), of("B", api.Is, ""), of("a", api.Is, "z"), of("b", api.Is, "1"), of("a", api.Is, "y"), of("b", api.Is, "1")}
	before := slices.Clone(l)
	want := list{of("B", api.Is, ""), of("a", api.Is, "y"), of("a", api.Is, "z"), of("a", api.Like, "x"), of("b", api.Is, "1")}
	if got := Order(l); !slices.Equal(got, want) {
		t.Errorf("Order is %v", got)
	}
	if got := Names(l); !slices.Equal(got, []string{"B", "a", "b"}) {
		t.Errorf("Names is %q", got)
	}
	if got := Of(l, "a"); !slices.Equal(got, list{l[1], l[3], l[5]}) {
		t.Errorf("Of a is %v", got)
	}
	if got := Of(l, "b"); len(got) != 3 {
		t.Errorf("Of b is %v", got)
	}
	if len(Order(nil)) != 0 || len(Names(nil)) != 0 || len(Of(nil, "a")) != 0 || len(Of(l, "c")) != 0 || len(Of(l, "")) != 0 {
		t.Error("something comes of nothing")
	}
	if !slices.Equal(l, before) {
		t.Error("the argument is changed")
	}
}

func TestText(t *testing.T) { // 23.3
	for _, c := range []struct {
		l    list
		want string
	}{
		{nil, "{}"}, {list{of("a", api.Is, "1"), of("b", api.Unlike, "2")}, `{a="1", b!~"2"}`}, {list{of("a", 0, "\""), of("", api.Not, "")}, `{a?"\"", !=""}`},
	} {
		if got := Text(c.l); got != c.want {
			t.Errorf("Text(%v) is %s", c.l, got)
		}
	}
}

func TestTakeAndParse(t *testing.T) { // 23.3, 23.4
	for _, l := range []list{nil, {of("a", api.Is, "1")}, {of("b", api.Like, "[}\", ]"), of("a", api.Not, "\xff"), of("b", api.Like, "")}, many(64)} {
		text := Text(l)
		for _, before := range []string{"", "{", "x\xff"} {
			for _, after := range []string{"", "}", ", a"} {
				got, end, f := Take(before+text+after, len(before))
				if !slices.Equal(got, l) || end != len(before+text) || f != (api.Fault{}) {
					t.Errorf("Take of %.40q = %v, %d, %v", before+text+after, got, end, f)
				}
			}
		}
		if got, f := Parse(text); !slices.Equal(got, l) || f != (api.Fault{}) {
			t.Errorf("Parse(%.40q) = %v, %v", text, got, f)
		}
		if got, f := Parse(text + " "); len(got) != 0 || f != fault(api.ErrForm, len(text)) {
			t.Errorf("Parse(%.40q) with a space after it = %v, %v", text, got, f)
		}
	}
}

func TestTakeRefuses(t *testing.T) { // 23.3
	full := strings.TrimSuffix(Text(many(64)), "}")
	for _, c := range []struct {
		s    string
		want api.Fault
	}{
		{"", fault(api.ErrEnd, 0)}, {"{", fault(api.ErrEnd, 1)}, {"{a", fault(api.ErrEnd, 2)}, {"{a=", fault(api.ErrEnd, 3)}, {`{a="1"`, fault(api.ErrEnd, 6)}, {`{a="1",`, fault(api.ErrEnd, 7)}, {`{a="1", `, fault(api.ErrEnd, 8)}, {`{a="1", b!`, fault(api.ErrEnd, 10)},
		{"}", fault(api.ErrForm, 0)}, {"a", fault(api.ErrForm, 0)}, {" {}", fault(api.ErrForm, 0)}, {`{a="1" }`, fault(api.ErrForm, 6)}, {`{a="1";`, fault(api.ErrForm, 6)}, {`{a="1",b="1"}`, fault(api.ErrForm, 7)}, {`{a="1",}`, fault(api.ErrForm, 7)}, {"{a}", fault(api.ErrForm, 2)}, {"{a!}", fault(api.ErrForm, 2)}, {`{a=~"*"}`, fault(api.ErrForm, 4)},
		{"{ }", fault(api.ErrName, 1)}, {"{{", fault(api.ErrName, 1)}, {"{,", fault(api.ErrName, 1)}, {`{a="1", }`, fault(api.ErrName, 8)}, {`{a="1",  b="1"}`, fault(api.ErrName, 8)}, {"{9", fault(api.ErrName, 1)}, {`{a=~"a{17}"}`, fault(api.ErrLimit, 4)},
		{full + ", ", fault(api.ErrEnd, len(full)+2)}, {full + ",", fault(api.ErrEnd, len(full)+1)}, {full + `, a="1"}`, fault(api.ErrLimit, len(full)+2)}, {full + ", }", fault(api.ErrLimit, len(full)+2)}, {full + ",a", fault(api.ErrForm, len(full)+1)}, {full, fault(api.ErrEnd, len(full))},
	} {
		if got, f := Parse(c.s); len(got) != 0 || f != c.want {
			t.Errorf("Parse(%.40q) = %v, %v, want %v", c.s, got, f, c.want)
		}
		for _, before := range []string{"", "{}"} {
			got, end, f := Take(before+c.s, len(before))
			if len(got) != 0 || end != 0 || f != fault(c.want.E, c.want.At+len(before)) {
				t.Errorf("Take(%.40q) = %v, %d, %v, want %v", before+c.s, got, end, f, c.want)
			}
		}
	}
	for _, at := range []int{-1, 3, math.MinInt, math.MaxInt} {
		if got, end, f := Take("{}", at); len(got) != 0 || end != 0 || f != fault(api.ErrArg, 0) {
			t.Errorf("Take at %d = %v, %d, %v", at, got, end, f)
		}
	}
}

func TestProperties(t *testing.T) { // 23.4
	r := rand.New(rand.NewSource(23))
	names, values := []string{"a", "b", "c"}, []string{"", "x", "x|y", ".*"}
	for range 1000 {
		var l list
		for range r.Intn(6) {
			l = append(l, of(names[r.Intn(3)], 1+r.Intn(4), values[r.Intn(4)]))
		}
		sorted := Order(l)
		for i := 1; i < len(sorted); i++ {
			if matcher.Compare(sorted[i-1], sorted[i]) >= 0 {
				t.Fatalf("Order(%v) is %v", l, sorted)
			}
		}
		for range 10 {
			m := []api.Label{label("a", values[r.Intn(3)]), label("b", values[r.Intn(3)])}
			if Holds(l, m) != Holds(sorted, m) {
				t.Fatalf("Order(%v) changes what holds for %v", l, m)
			}
		}
		var all list
		for _, name := range Names(l) {
			all = append(all, Of(l, name)...)
		}
		if len(all) != len(l) || !slices.Equal(Order(all), sorted) {
			t.Fatalf("the matchers of all names of %v are %v", l, all)
		}
	}
}
