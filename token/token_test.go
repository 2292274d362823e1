package token

import (
	"math/rand"
	"slices"
	"strings"
	"testing"

	"porter/api"
)

var tag = strings.Repeat("t", 32)

func link(text, seal string) api.Link { return api.Link{Text: text, Seal: seal} }

func of(id string, links ...api.Link) api.Token { return api.Token{ID: id, Links: links, Tag: tag} }

func long(n int) string { return strings.Repeat("x", n) }

func same(a, b api.Token) bool {
	return a.ID == b.ID && a.Tag == b.Tag && slices.Equal(a.Links, b.Links)
}

func TestPutAndSize(t *testing.T) { // 30.1
	for _, c := range []struct {
		t    api.Token
		want string
	}{
		{of("a"), "\x01a\x00" + tag}, {of(""), "\x00\x00" + tag}, {of("a", link("bc", "")), "\x01a\x01\x00\x02bc" + tag}, {of("a", link("", ""), link("b", "cd"), link("", "e")), "\x01a\x03\x00\x00\x01\x01b\x02cd\x01\x00\x01e" + tag},
		{of(long(4144)), "\xb0\x20" + long(4144) + "\x00" + tag}, {of("", link(long(2048), ""), link(long(4144), long(4144))), "\x00\x02\x00\x80\x10" + long(2048) + "\x01\xb0\x20" + long(4144) + "\xb0\x20" + long(4144) + tag},
		{of("", slices.Repeat([]api.Link{link("", "")}, 64)...), "\x00\x40" + strings.Repeat("\x00\x00", 64) + tag},
	} {
		if got, e := Put(c.t); got != c.want || e != api.OK {
			t.Errorf("Put(%.60v) has %d bytes, error %d", c.t, len(got), e)
		}
		if got := Size(c.t); got != len(c.want) {
			t.Errorf("Size(%.60v) = %d", c.t, got)
		}
		c.t.Tag = "short"
		if got := Size(c.t); got != len(c.want) {
			t.Errorf("Size with another tag is %d", got)
		}
	}
}

func TestPutRefuses(t *testing.T) { // 30.1
	untagged := func(t api.Token, tag string) api.Token { t.Tag = tag; return t }
	for i, c := range []struct {
		t    api.Token
		want api.Errno
		size int
	}{
		{of(long(4145)), api.ErrLimit, 0}, {of("", slices.Repeat([]api.Link{link("", "")}, 65)...), api.ErrLimit, 0}, {of("", link(long(2049), "")), api.ErrLimit, 0}, {of("", link("", ""), link(long(4145), "s")), api.ErrLimit, 0}, {of("", link("", long(4145))), api.ErrLimit, 0},
		{untagged(of("a"), ""), api.ErrArg, 35}, {untagged(of("a"), tag[1:]), api.ErrArg, 35}, {untagged(of("a"), tag+"t"), api.ErrArg, 35}, {untagged(of("", link(long(2049), "")), ""), api.ErrLimit, 0}, {untagged(of(long(4145)), ""), api.ErrLimit, 0}, {api.Token{}, api.ErrArg, 34},
	} {
		if got, e := Put(c.t); got != "" || e != c.want {
			t.Errorf("case %d: %d bytes, error %d, want %d", i, len(got), e, c.want)
		}
		if got := Size(c.t); got != c.size {
			t.Errorf("case %d: Size is %d, want %d", i, got, c.size)
		}
	}
}

func TestGetRefuses(t *testing.T) { // 30.2
	for _, c := range []struct {
		s    string
		want api.Errno
	}{
		{"", api.ErrEnd}, {"\x80", api.ErrEnd}, {"\x80\x00", api.ErrForm}, {"\x01", api.ErrEnd}, {"\xb1\x20", api.ErrLimit}, {"\xb1\x20" + long(4145) + "\x00" + tag, api.ErrLimit}, {"\x01a", api.ErrEnd}, {"\x01a\x80\x00", api.ErrForm}, {"\x01a\x41" + long(100), api.ErrLimit},
		{"\x01a\x01", api.ErrEnd}, {"\x01a\x01\x02", api.ErrForm}, {"\x01a\x01\xff" + long(99), api.ErrForm}, {"\x01a\x01\x00", api.ErrEnd}, {"\x01a\x01\x00\x81\x10", api.ErrLimit}, {"\x01a\x01\x00\x02b", api.ErrEnd}, {"\x01a\x01\x01", api.ErrEnd}, {"\x01a\x01\x01\xb1\x20", api.ErrLimit}, {"\x01a\x01\x01\x01b", api.ErrEnd}, {"\x01a\x01\x01\x01b\xb1\x20", api.ErrLimit},
		{"\x01a\x01\x01\x01b\x00" + tag, api.ErrForm}, {"\x01a\x01\x01\x01b\x00", api.ErrForm}, {"\x01a\x01\x01\x01b\x02c", api.ErrEnd}, {"\x01a\x02\x00\x00", api.ErrEnd},
		{"\x01a\x00", api.ErrEnd}, {"\x01a\x00" + tag[1:], api.ErrEnd}, {"\x01a\x00" + tag + "t", api.ErrForm}, {"\x01a\x00" + tag + tag, api.ErrForm},
	} {
		if got, e := Get(c.s); !same(got, api.Token{}) || e != c.want {
			t.Errorf("Get(%.40q) = %v, error %d, want %d", c.s, got, e, c.want)
		}
	}
}

func TestInverses(t *testing.T) { // 30.2, 30.3
	r := rand.New(rand.NewSource(30))
	for range 3000 {
		x := of(long(r.Intn(200)))
		for range r.Intn(4) {
			x.Links = append(x.Links, link(long(r.Intn(200)), long(r.Intn(2)*r.Intn(200))))
		}
		s, e := Put(x)
		if got, f := Get(s); !same(got, x) || e != api.OK || f != api.OK {
			t.Fatalf("Get(Put(%v)) = %v, errors %d, %d", x, got, e, f)
		}
		changed := []byte(s)
		changed[r.Intn(min(len(s), 12))] ^= byte(1 << r.Intn(8))
		for _, other := range []string{string(changed), s[:r.Intn(len(s))], s + "\x00"} {
			if got, e := Get(other); e == api.OK {
				if again, _ := Put(got); again != other {
					t.Fatalf("Put(Get(%q)) = %q", other, again)
				}
			}
		}
	}
}
