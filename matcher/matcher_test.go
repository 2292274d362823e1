package matcher

import (
	"math"
	"slices"
	"strings"
	"testing"

	"porter/api"
)

func of(name string, op int, value string) api.Matcher {
	return api.Matcher{Name: name, Op: op, Value: value}
}

func label(name, value string) api.Label {
	return api.Label{Name: name, Value: value}
}

var (
	longest = strings.Repeat("v", 1024)
	long    = longest + "v"
)

func TestRight(t *testing.T) { // 22.1
	for i, c := range []struct {
		m    api.Matcher
		want api.Errno
	}{
		{of("a", api.Is, ""), api.OK}, {of("a", api.Not, longest), api.OK}, {of("a", api.Like, "b|c"), api.OK}, {of("_9", api.Unlike, ""), api.OK}, {of("a", api.Is, "("), api.OK},
		{of("", api.Is, "x"), api.ErrName}, {of("a-b", 9, long), api.ErrName}, {of(strings.Repeat("n", 33), api.Is, ""), api.ErrName}, {of("9", api.Like, "("), api.ErrName},
		{of("a", 0, "x"), api.ErrArg}, {of("a", 5, long), api.ErrArg}, {of("a", -1, ""), api.ErrArg},
		{of("a", api.Is, long), api.ErrLimit}, {of("a", api.Not, long), api.ErrLimit}, {of("a", api.Like, strings.Repeat("a", 256)), api.OK}, {of("a", api.Like, strings.Repeat("a", 257)), api.ErrLimit}, {of("a", api.Unlike, "a{17}"), api.ErrLimit},
		{of("a", api.Like, "("), api.ErrEnd}, {of("a", api.Unlike, "a{"), api.ErrEnd}, {of("a", api.Like, ")"), api.ErrForm}, {of("a", api.Unlike, "*"), api.ErrForm},
	} {
		if got := Right(c.m); got != c.want {
			t.Errorf("case %d: Right is %d, want %d", i, got, c.want)
		}
	}
}

func TestTest(t *testing.T) { // 22.2
	for _, c := range []struct {
		op          int
		value, with string
		want        bool
	}{
		{api.Is, "x", "x", true}, {api.Is, "x", "X", false}, {api.Is, "", "", true}, {api.Is, "x", "", false}, {api.Is, ".*", "x", false}, {api.Not, "x", "x", false}, {api.Not, "x", "", true}, {api.Not, "", "", false},
		{api.Like, "b|c", "c", true}, {api.Like, "b|c", "bc", false}, {api.Like, "b*", "", true}, {api.Like, "b", "ab", false}, {api.Unlike, "b|c", "c", false}, {api.Unlike, "b|c", "", true}, {api.Unlike, ".*", "\xff", false},
		{api.Is, long, long, false}, {api.Not, long, "x", false}, {api.Like, "(", "(", false}, {api.Unlike, "(", "x", false}, {0, "x", "x", false}, {5, "x", "x", false}, {api.Like, ".*", long, true},
	} {
		m := of("a", c.op, c.value)
		if Test(m, c.with) != c.want {
			t.Errorf("Test(%.30v, %.9q) is %v", m, c.with, !c.want)
		}
		if Holds(m, []api.Label{label("b", "y"), label("a", c.with), label("a", "z")}) != c.want {
			t.Errorf("Holds(%.30v) for %.9q is %v", m, c.with, !c.want)
		}
		m.Name = "9"
		if Test(m, c.with) || Holds(m, []api.Label{label("9", c.with)}) {
			t.Errorf("an invalid name does not matter for %v", m)
		}
	}
	job := of("job", api.Not, "a")
	if !Holds(job, nil) || Holds(job, []api.Label{label("job", "a")}) {
		t.Error("the example is wrong")
	}
}

func TestCompare(t *testing.T) { // 22.3
	l := []api.Matcher{
		of("", 9, "z"), of("A", api.Like, ""), of("a", -1, "z"), of("a", api.Is, ""), of("a", api.Is, "a"), of("a", api.Is, "a\x00"), of("a", api.Is, "b"), of("a", api.Is, "\xff"),
		of("a", api.Not, ""), of("a", api.Like, "a"), of("a", api.Unlike, "a"), of("a", 10, ""), of("aa", api.Is, ""), of("b", api.Is, ""), of("\xff", 0, ""),
	}
	for i, a := range l {
		for k, b := range l {
			want := 0
			if i < k {
				want = -1
			} else if i > k {
				want = 1
			}
			if got := Compare(a, b); got != want {
				t.Errorf("Compare(%v, %v) is %d", a, b, got)
			}
		}
	}
}

func TestText(t *testing.T) { // 22.4
	for _, c := range []struct {
		m    api.Matcher
		want string
	}{
		{of("a", api.Is, "1"), `a="1"`}, {of("a", api.Not, ""), `a!=""`}, {of("a", api.Like, `\d`), `a=~"\\d"`}, {of("a", api.Unlike, "\"\xff"), `a!~"\"\xff"`},
		{of("a", 0, "1"), `a?"1"`}, {of("", 5, ""), `?""`}, {of("9 ", -1, "é"), `9 ?"é"`}, {of("a", api.Like, "("), `a=~"("`},
	} {
		if got := Text(c.m); got != c.want {
			t.Errorf("Text(%v) is %s, want %s", c.m, got, c.want)
		}
	}
}

func TestTake(t *testing.T) { // 22.4, 22.5
	for _, m := range []api.Matcher{of("a", api.Is, ""), of("_a9", api.Not, longest), of("a", api.Like, `a|[\d"]*`), of(strings.Repeat("n", 32), api.Unlike, "\xff é"), of("a", api.Is, "=~"), of("a", api.Is, "(")} {
		for _, before := range []string{"", "{", "\xff,"} {
			for _, after := range []string{"", "}", ", b", "\"", "\xff"} {
				got, end, f := Take(before+Text(m)+after, len(before))
				if got != m || end != len(before)+len(Text(m)) || f != (api.Fault{}) {
					t.Errorf("Take of %.40q = %v, %d, %v", before+Text(m)+after, got, end, f)
				}
			}
		}
	}
	if m, end, f := Take(`a="\x41"`, 0); m != of("a", api.Is, "A") || end != 8 || f != (api.Fault{}) {
		t.Errorf("an escaped value: %v, %d, %v", m, end, f)
	}
}

func TestTakeRefuses(t *testing.T) { // 22.4
	for _, c := range []struct {
		s    string
		e    api.Errno
		want int
	}{
		{"", api.ErrEnd, 0}, {"a", api.ErrEnd, 1}, {"a=", api.ErrEnd, 2}, {"a!", api.ErrEnd, 2}, {"a=~", api.ErrEnd, 3}, {"a!=", api.ErrEnd, 3}, {"a!~", api.ErrEnd, 3}, {`a="`, api.ErrEnd, 3}, {`a="x`, api.ErrEnd, 4}, {`a=~"\`, api.ErrEnd, 5},
		{"9", api.ErrName, 0}, {"=", api.ErrName, 0}, {" a", api.ErrName, 0}, {"é", api.ErrName, 0}, {"}", api.ErrName, 0}, {strings.Repeat("n", 33), api.ErrName, 0}, {strings.Repeat("n", 33) + "=", api.ErrName, 0},
		{"a?", api.ErrForm, 1}, {"a ", api.ErrForm, 1}, {"a~", api.ErrForm, 1}, {"a-b=", api.ErrForm, 1}, {"a!!", api.ErrForm, 1}, {`a!"x"`, api.ErrForm, 1}, {"a==", api.ErrForm, 2}, {"a=!", api.ErrForm, 2}, {"a=x", api.ErrForm, 2}, {"a=~~", api.ErrForm, 3}, {"a!=~", api.ErrForm, 3}, {"a= ", api.ErrForm, 2}, {`a="\q"`, api.ErrForm, 3}, {"a=\"x\x00\"", api.ErrForm, 4},
		{`a=~"("`, api.ErrEnd, 3}, {`a=~"ab*+"`, api.ErrForm, 3}, {`a!~"a{17}"`, api.ErrLimit, 3}, {`a="` + long + `"`, api.ErrLimit, 2}, {`a!="` + long + `"`, api.ErrLimit, 3}, {`a=~"` + long + `"`, api.ErrLimit, 3},
	} {
		for _, before := range []string{"", "{", "a="} {
			m, end, f := Take(before+c.s, len(before))
			if m != (api.Matcher{}) || end != 0 || f != (api.Fault{E: c.e, At: c.want + len(before)}) {
				t.Errorf("Take(%.40q, %d) = %v, %d, %v, want error %d at %d", before+c.s, len(before), m, end, f, c.e, c.want+len(before))
			}
		}
	}
	for _, at := range []int{-1, 6, math.MinInt, math.MaxInt} {
		if m, end, f := Take(`a="1"`, at); m != (api.Matcher{}) || end != 0 || f != (api.Fault{E: api.ErrArg}) {
			t.Errorf("Take at %d = %v, %d, %v", at, m, end, f)
		}
	}
}

func TestProperties(t *testing.T) { // 22.5
	values := []string{"", "a", "ab", "b", "\xff", longest}
	for _, value := range []string{"", "a", "a*", "a|b", ".", ".*"} {
		for _, with := range values {
			if Test(of("x", api.Is, value), with) == Test(of("x", api.Not, value), with) || Test(of("x", api.Like, value), with) == Test(of("x", api.Unlike, value), with) {
				t.Errorf("%q and its opposite agree on %.9q", value, with)
			}
			for _, op := range []int{api.Is, api.Not, api.Like, api.Unlike} {
				m := of("x", op, value)
				l := []api.Label{label("x", with)}
				others := []api.Label{label("a", "1"), label("x", with), label("y", "2")}
				if Holds(m, l) != Holds(m, others) || Holds(m, slices.Delete(others, 1, 2)) != Test(m, "") {
					t.Errorf("%v depends on other names", m)
				}
			}
		}
	}
}
