package request

import (
	"math/rand"
	"slices"
	"strings"
	"testing"

	"porter/api"
	"porter/bundle"
	"porter/field"
)

var (
	tag   = strings.Repeat("t", 32)
	word  = strings.Repeat("w", 32)
	token = api.Token{ID: "a", Tag: tag}
)

func of(n string, op int, v string) api.Matcher { return api.Matcher{Name: n, Op: op, Value: v} }
func label(n, v string) api.Label               { return api.Label{Name: n, Value: v} }

func asking(l ...api.Matcher) api.Request {
	return api.Request{Bundle: api.Bundle{Token: token}, Tenant: "acme", Endpoint: "query", Class: "gold", Do: api.Query, Sel: l}
}

func writing(l ...api.Label) api.Request {
	return api.Request{Bundle: api.Bundle{Token: token}, Tenant: "acme", Endpoint: "write", Class: "gold", Do: api.Write, Series: l}
}

func with(q api.Request, change func(*api.Request)) api.Request {
	change(&q)
	return q
}

func same(a, b api.Request) bool {
	alike := func(a, b api.Token) bool {
		return a.ID == b.ID && a.Tag == b.Tag && slices.Equal(a.Links, b.Links)
	}
	return alike(a.Bundle.Token, b.Bundle.Token) && slices.EqualFunc(a.Bundle.More, b.Bundle.More, alike) && a.Do == b.Do &&
		a.Tenant == b.Tenant && a.Endpoint == b.Endpoint && a.Class == b.Class && slices.Equal(a.Sel, b.Sel) && slices.Equal(a.Series, b.Series)
}

func encoded(b api.Bundle) string {
	s, _ := bundle.Put(b)
	return field.Text(s)
}

func TestPut(t *testing.T) { // 32.1
	b := encoded(api.Bundle{Token: token})
	for _, c := range []struct {
		q    api.Request
		want string
	}{
		{asking(), "\x01" + b + "\x04acme\x05query\x04gold\x01\x02{}"}, {asking(of("b", api.Like, "x|y"), of("a", api.Is, "")), "\x01" + b + "\x04acme\x05query\x04gold\x01\x10" + `{b=~"x|y", a=""}`},
		{writing(), "\x01" + b + "\x04acme\x05write\x04gold\x02\x02{}"}, {writing(label("a", "1"), label("b", "\xff")), "\x01" + b + "\x04acme\x05write\x04gold\x02\x11" + `{a="1", b="\xff"}`},
		{with(asking(), func(q *api.Request) { q.Tenant, q.Endpoint, q.Class = word, word, word }), "\x01" + b + strings.Repeat("\x20"+word, 3) + "\x01\x02{}"},
		{with(asking(), func(q *api.Request) { q.Bundle.More = []api.Token{token} }), "\x01" + encoded(api.Bundle{Token: token, More: []api.Token{token}}) + "\x04acme\x05query\x04gold\x01\x02{}"},
		{with(asking(), func(q *api.Request) { q.Series = []api.Label{} }), "\x01" + b + "\x04acme\x05query\x04gold\x01\x02{}"},
	} {
		if got, e := Put(c.q); got != c.want || e != api.OK {
			t.Errorf("Put(%v) = %q, error %d", c.q, got, e)
		}
	}
}

// large returns matchers whose text has 16384 bytes, and some more.
func large(more int) []api.Matcher {
	l := slices.Repeat([]api.Matcher{of("a", api.Is, strings.Repeat("v", 1018))}, 16)
	l[15].Value += strings.Repeat("v", more)
	return l
}

func TestPutRefuses(t *testing.T) { // 32.1
	bad := of("a", api.Like, "(")
	for i, c := range []struct {
		q    api.Request
		want api.Errno
	}{
		{with(asking(), func(q *api.Request) { q.Bundle.Token.Tag = ""; q.Tenant = "" }), api.ErrArg}, {with(asking(), func(q *api.Request) { q.Bundle.More = make([]api.Token, 9); q.Do = 0 }), api.ErrLimit},
		{with(asking(bad), func(q *api.Request) { q.Tenant = "" }), api.ErrName}, {with(asking(), func(q *api.Request) { q.Endpoint = "A" }), api.ErrName}, {with(asking(), func(q *api.Request) { q.Class = word + "w"; q.Do = 3 }), api.ErrName},
		{with(asking(bad), func(q *api.Request) { q.Do = 0 }), api.ErrForm}, {with(asking(), func(q *api.Request) { q.Do = 3 }), api.ErrForm}, {with(asking(), func(q *api.Request) { q.Do = 257 }), api.ErrForm}, {with(asking(), func(q *api.Request) { q.Do = -1 }), api.ErrForm}, {with(asking(bad), func(q *api.Request) { q.Series = []api.Label{label("a", "1")} }), api.ErrForm}, {with(writing(label("", "")), func(q *api.Request) { q.Sel = []api.Matcher{bad} }), api.ErrForm},
		{asking(bad), api.ErrEnd}, {asking(of("a", api.Is, ""), of("", api.Is, "")), api.ErrName}, {asking(slices.Repeat([]api.Matcher{of("a", api.Is, "")}, 65)...), api.ErrLimit}, {asking(of("a", 9, "")), api.ErrArg},
		{writing(label("b", "1"), label("a", "1")), api.ErrForm}, {writing(label("a", "1"), label("a", "1")), api.ErrTwice}, {writing(label("a", "")), api.ErrForm}, {writing(label("9", "")), api.ErrName},
		{asking(large(0)...), api.OK}, {asking(large(1)...), api.ErrLimit},
	} {
		got, e := Put(c.q)
		if e != c.want || e != api.OK && got != "" {
			t.Errorf("case %d: %d bytes, error %d, want %d", i, len(got), e, c.want)
		}
		if e == api.OK {
			if back, e := Get(got); !same(back, c.q) || e != api.OK {
				t.Errorf("case %d: Get fails with %d", i, e)
			}
		}
	}
}

func TestGetRefuses(t *testing.T) { // 32.2
	b := encoded(api.Bundle{Token: token})
	start := "\x01" + b
	words := start + "\x04acme\x05query\x04gold"
	for i, c := range []struct {
		s    string
		want api.Errno
	}{
		{"", api.ErrEnd}, {"\x00", api.ErrForm}, {"\x02" + b, api.ErrForm}, {"\x01", api.ErrEnd}, {"\x01\x80\x00", api.ErrForm}, {"\x01\x81\x80\x04", api.ErrLimit}, {"\x01\x09abc", api.ErrEnd}, {"\x01\x00", api.ErrEnd}, {"\x01" + field.Text(b[1:]+"x"), api.ErrForm}, {"\x01" + field.Text("\x01\x00"), api.ErrEnd}, {"\x01" + field.Text(b[1:len(b)-1]+"\x09") + "\x21", api.ErrLimit},
		{start, api.ErrEnd}, {start + "\x21", api.ErrLimit}, {start + "\x04acm", api.ErrEnd}, {start + "\x04acmE", api.ErrName}, {start + "\x00", api.ErrName}, {start + "\x04acme\x00", api.ErrName}, {start + "\x04acme\x21", api.ErrLimit}, {start + "\x04acme\x05query", api.ErrEnd}, {start + "\x04acme\x05query\x041old", api.ErrName}, {start + "\x04acme\x05query\x80\x00", api.ErrForm},
		{words, api.ErrEnd}, {words + "\x00", api.ErrForm}, {words + "\x03\x02{}", api.ErrForm}, {words + "\x01", api.ErrEnd}, {words + "\x01\x02{", api.ErrEnd}, {words + "\x01\x81\x80\x01", api.ErrLimit}, {words + "\x01\x00", api.ErrEnd}, {words + "\x01\x01{", api.ErrEnd}, {words + "\x01\x02{9", api.ErrName}, {words + "\x01\x03{}x", api.ErrForm}, {words + "\x01\x09" + `{a=~"("}`, api.ErrEnd},
		{words + "\x01\x02{}x", api.ErrForm}, {words + "\x02\x02{}x", api.ErrForm}, {words + "\x02\x01{", api.ErrEnd}, {words + "\x02\x06" + `{a=""}`, api.ErrForm}, {words + "\x02" + field.Text(`{b="1", a="2"}`), api.ErrForm}, {words + "\x02" + field.Text(`{a="1", b="2"}x`), api.ErrForm}, {words + "\x02" + field.Text(`{a="1",b="22"}`), api.ErrForm}, {words + "\x02" + field.Text(`{a="1", a="2"}`), api.ErrTwice}, {words + "\x02" + field.Text(`{a="1", a="2"}`) + "x", api.ErrTwice}, {words + "\x02" + field.Text(`{a!="1"}`), api.ErrForm},
		{words + "\x01" + field.Text(`{a="\x41"}`), api.ErrForm}, {words + "\x02" + field.Text(`{a="\x41"}`), api.ErrForm}, {words + "\x02" + field.Text(`{a="\x41", a=""}`), api.ErrForm},
	} {
		if got, e := Get(c.s); !same(got, api.Request{}) || e != c.want {
			t.Errorf("case %d: Get(%.80q) = %v, error %d, want %d", i, c.s, got, e, c.want)
		}
	}
}

func TestInverses(t *testing.T) { // 32.3
	r := rand.New(rand.NewSource(32))
	values := []string{"", "a", "A\"", "\xff", "x|y", "é"}
	for range 2000 {
		q := asking()
		if r.Intn(2) == 0 {
			q = writing()
			for _, name := range []string{"a", "b", "c"} {
				if r.Intn(2) == 0 {
					q.Series = append(q.Series, label(name, "v"+values[r.Intn(len(values))]))
				}
			}
		} else {
			for range r.Intn(4) {
				q.Sel = append(q.Sel, of("a", 1+r.Intn(4), values[r.Intn(len(values))]))
			}
		}
		s, e := Put(q)
		if got, f := Get(s); !same(got, q) || e != api.OK || f != api.OK {
			t.Fatalf("Get(Put(%v)) = %v, errors %d, %d", q, got, e, f)
		}
		changed := []byte(s)
		changed[r.Intn(len(s))] ^= byte(1 << r.Intn(8))
		for _, other := range []string{string(changed), s[:r.Intn(len(s))], s + "\x00"} {
			if got, e := Get(other); e == api.OK {
				if again, _ := Put(got); again != other {
					t.Fatalf("Put(Get(%q)) = %q", other, again)
				}
			}
		}
	}
}
