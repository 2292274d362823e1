package reply

import (
	"math/rand"
	"slices"
	"strings"
	"testing"

	"porter/api"
	"porter/field"
	"porter/selector"
	"porter/token"
)

var tag = strings.Repeat("t", 32)

func of(n string, op int, v string) api.Matcher { return api.Matcher{Name: n, Op: op, Value: v} }

func tokenOf(links ...string) api.Token {
	t := api.Token{ID: "a", Tag: tag}
	for _, text := range links {
		t.Links = append(t.Links, api.Link{Text: text})
	}
	return t
}

func encoded(t api.Token) string {
	s, _ := token.Put(t)
	return field.Text(s)
}

func same(a, b api.Reply) bool {
	return a.Code == b.Code && a.Num == b.Num && a.Token.ID == b.Token.ID && a.Token.Tag == b.Token.Tag && slices.Equal(a.Token.Links, b.Token.Links) && slices.Equal(a.Sel, b.Sel)
}

// wide returns matchers whose text has about n bytes.
func wide(n int) []api.Matcher {
	l := slices.Repeat([]api.Matcher{of("a", api.Is, strings.Repeat("\xff", 515))}, 64)
	l[0].Value = ""
	l[0].Value = strings.Repeat("v", n-len(selector.Text(l)))
	return l
}

func TestPut(t *testing.T) { // 33.1
	for _, c := range []struct {
		r    api.Reply
		want string
	}{
		{api.Reply{}, "\x00\x00\x00\x02{}"}, {api.Reply{Code: 99, Num: 300}, "\x63\xac\x02\x00\x02{}"}, {api.Reply{Num: 1 << 40}, "\x00\x80\x80\x80\x80\x80\x20\x00\x02{}"}, {api.Reply{Code: api.ErrRate, Token: tokenOf("x")}, "\x11\x00\x01" + encoded(tokenOf("x")) + "\x02{}"}, {api.Reply{Sel: []api.Matcher{of("a", api.Like, "b")}}, "\x00\x00\x00\x08" + `{a=~"b"}`},
	} {
		if got, e := Put(c.r); got != c.want || e != api.OK {
			t.Errorf("Put(%v) = %q, error %d", c.r, got, e)
		}
	}
}

func TestPutRefuses(t *testing.T) { // 33.1
	bad := []api.Matcher{of("a", api.Like, "(")}
	for i, c := range []struct {
		r    api.Reply
		want api.Errno
	}{
		{api.Reply{Code: -1, Token: api.Token{ID: "a"}}, api.ErrLimit}, {api.Reply{Code: 100, Sel: bad}, api.ErrLimit}, {api.Reply{Num: -1}, api.ErrLimit}, {api.Reply{Num: 1<<40 + 1, Token: api.Token{ID: "a"}}, api.ErrLimit},
		{api.Reply{Token: api.Token{ID: "a"}, Sel: bad}, api.ErrArg}, {api.Reply{Token: api.Token{Tag: "t"}}, api.ErrArg}, {api.Reply{Token: api.Token{Links: []api.Link{{}}}}, api.ErrArg}, {api.Reply{Token: tokenOf(strings.Repeat("x", 2049))}, api.ErrLimit},
		{api.Reply{Sel: bad}, api.ErrEnd}, {api.Reply{Sel: []api.Matcher{of("", api.Is, "")}}, api.ErrName}, {api.Reply{Sel: slices.Repeat([]api.Matcher{of("a", api.Is, "")}, 65)}, api.ErrLimit}, {api.Reply{Sel: wide(131072)}, api.OK}, {api.Reply{Sel: wide(131073)}, api.ErrLimit},
	} {
		got, e := Put(c.r)
		if e != c.want || e != api.OK && got != "" {
			t.Errorf("case %d: %d bytes, error %d, want %d", i, len(got), e, c.want)
		}
		if e == api.OK {
			if back, e := Get(got); !same(back, c.r) || e != api.OK {
				t.Errorf("case %d: Get fails with %d", i, e)
			}
		}
	}
}

func TestGetRefuses(t *testing.T) { // 33.2
	tok := encoded(tokenOf())
	for i, c := range []struct {
		s    string
		want api.Errno
	}{
		{"", api.ErrEnd}, {"\x80", api.ErrEnd}, {"\x80\x00", api.ErrForm}, {"\x64", api.ErrLimit}, {"\x00", api.ErrEnd}, {"\x00\x80\x00", api.ErrForm}, {"\x00\x81\x80\x80\x80\x80\x20", api.ErrLimit}, {"\x00\x00", api.ErrEnd}, {"\x00\x00\x02", api.ErrForm}, {"\x00\x00\xff\x02{}", api.ErrForm},
		{"\x00\x00\x01", api.ErrEnd}, {"\x00\x00\x01\x81\x80\x04", api.ErrLimit}, {"\x00\x00\x01\x05abc", api.ErrEnd}, {"\x00\x00\x01\x00\x02{}", api.ErrEnd}, {"\x00\x00\x01" + field.Text(tok[1:]+"x"), api.ErrForm}, {"\x00\x00\x01" + field.Text("\x01a\x41"), api.ErrLimit}, {"\x00\x00\x01" + tok, api.ErrEnd},
		{"\x00\x00\x00", api.ErrEnd}, {"\x00\x00\x00\x81\x80\x08", api.ErrLimit}, {"\x00\x00\x00\x02{", api.ErrEnd}, {"\x00\x00\x00\x00", api.ErrEnd}, {"\x00\x00\x00\x01{", api.ErrEnd}, {"\x00\x00\x00\x03{}x", api.ErrForm}, {"\x00\x00\x00\x02{9", api.ErrName}, {"\x00\x00\x00" + field.Text(`{a=~"("}`) + "x", api.ErrEnd}, {"\x00\x00\x00\x02{}x", api.ErrForm}, {"\x00\x00\x01" + tok + "\x02{}x", api.ErrForm}, {"\x00\x00\x00" + field.Text(`{a="\x41"}`), api.ErrForm},
	} {
		if got, e := Get(c.s); !same(got, api.Reply{}) || e != c.want {
			t.Errorf("case %d: Get(%.40q) = %v, error %d, want %d", i, c.s, got, e, c.want)
		}
	}
}

func TestWord(t *testing.T) { // 33.3
	for i, want := range strings.Fields("ok end form limit name twice none argument tag key epoch discharge caveat denied empty series states rate clock full down nil other other") {
		if got := Word(api.Errno(i)); got != want {
			t.Errorf("Word(%d) is %s", i, got)
		}
	}
	for _, e := range []api.Errno{-1, -1 << 63, 1<<63 - 1, 99} {
		if Word(e) != "other" {
			t.Errorf("Word(%d) is %s", e, Word(e))
		}
	}
}

func TestLine(t *testing.T) { // 33.3
	for _, c := range []struct {
		r    api.Reply
		want string
	}{
		{api.Reply{}, "ok"}, {api.Reply{Code: api.ErrRate}, "rate"}, {api.Reply{Sel: []api.Matcher{of("a", api.Is, "b")}}, `ok {a="b"}`}, {api.Reply{Num: 1, Token: tokenOf()}, "ok 1 token of 0"}, {api.Reply{Code: 77, Num: -5, Token: tokenOf("", "", ""), Sel: []api.Matcher{of("a", api.Not, "\""), of("", 0, "")}}, `other -5 token of 3 {a!="\"", ?""}`},
		{api.Reply{Token: api.Token{Tag: "t"}}, "ok token of 0"}, {api.Reply{Token: api.Token{Links: []api.Link{{}}}}, "ok token of 1"}, {api.Reply{Token: api.Token{Links: []api.Link{}}}, "ok"}, {api.Reply{Num: -1 << 63}, "ok -9223372036854775808"},
	} {
		if got := Line(c.r); got != c.want {
			t.Errorf("Line(%v) is %s", c.r, got)
		}
	}
}

func TestInverses(t *testing.T) { // 33.4
	r := rand.New(rand.NewSource(33))
	values := []string{"", "a", "A\"", "\xff", "x|y", "é"}
	for range 2000 {
		x := api.Reply{Code: api.Errno(r.Intn(100)), Num: r.Intn(1000)}
		if r.Intn(2) == 0 {
			x.Token = tokenOf(slices.Repeat([]string{"x"}, r.Intn(3))...)
		}
		for range r.Intn(3) {
			x.Sel = append(x.Sel, of("a", 1+r.Intn(4), values[r.Intn(len(values))]))
		}
		s, e := Put(x)
		if got, f := Get(s); !same(got, x) || e != api.OK || f != api.OK {
			t.Fatalf("Get(Put(%v)) = %v, errors %d, %d", x, got, e, f)
		}
		changed := []byte(s)
		changed[r.Intn(len(s))] ^= byte(1 << r.Intn(8))
		for _, other := range []string{string(changed), s[:r.Intn(len(s))], s + "\x00"} {
			if got, e := Get(other); e == api.OK {
				if again, _ := Put(got); again != other {
					t.Fatalf("Put(Get(%q)) = %q", other, again)
				}
			}
		}
	}
}
