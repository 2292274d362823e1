package bundle

import (
	"math/rand"
	"slices"
	"strings"
	"testing"

	"porter/api"
	"porter/field"
	"porter/token"
)

var tag = strings.Repeat("t", 32)

func link(text, seal string) api.Link { return api.Link{Text: text, Seal: seal} }

func of(id string, links ...api.Link) api.Token { return api.Token{ID: id, Links: links, Tag: tag} }

func bundle(t api.Token, more ...api.Token) api.Bundle { return api.Bundle{Token: t, More: more} }

func long(n int) string { return strings.Repeat("x", n) }

func same(a, b api.Bundle) bool {
	eq := func(a, b api.Token) bool {
		return a.ID == b.ID && a.Tag == b.Tag && slices.Equal(a.Links, b.Links)
	}
	return eq(a.Token, b.Token) && slices.EqualFunc(a.More, b.More, eq)
}

// encoded returns a token's encoding as a string.
func encoded(t api.Token) string {
	s, _ := token.Put(t)
	return field.Text(s)
}

// wide returns a token whose encoding has about n bytes.
func wide(n int) api.Token {
	t := of("")
	for token.Size(t) < n {
		t.Links = append(t.Links, link(long(min(2048, max(n-token.Size(t)-3, 0))), ""))
	}
	return t
}

func TestPutAndSize(t *testing.T) { // 31.1
	a, b := of("a"), of("b", link("c", ""), link("d", "e"))
	for _, c := range []struct {
		b    api.Bundle
		want string
	}{
		{bundle(a), encoded(a) + "\x00"}, {bundle(b, a), encoded(b) + "\x01" + encoded(a)}, {bundle(a, b, a, b), encoded(a) + "\x03" + encoded(b) + encoded(a) + encoded(b)}, {bundle(a, slices.Repeat([]api.Token{b}, 8)...), encoded(a) + "\x08" + strings.Repeat(encoded(b), 8)},
	} {
		if got, e := Put(c.b); got != c.want || e != api.OK {
			t.Errorf("Put has %d bytes, error %d", len(got), e)
		}
		c.b.Token.Tag = ""
		if got := Size(c.b); got != len(c.want) {
			t.Errorf("Size is %d, want %d", got, len(c.want))
		}
	}
	if got, _ := Put(bundle(a)); len(got) != 37 {
		t.Errorf("the example has %d bytes", len(got))
	}
}

func TestPutRefuses(t *testing.T) { // 31.1
	a := of("a")
	untagged := api.Token{ID: "a"}
	wrong := of(long(4145))
	for i, c := range []struct {
		b    api.Bundle
		want api.Errno
		size int
	}{
		{bundle(a, slices.Repeat([]api.Token{a}, 9)...), api.ErrLimit, 0}, {bundle(untagged, slices.Repeat([]api.Token{a}, 9)...), api.ErrLimit, 0}, {bundle(untagged, wrong), api.ErrArg, 0}, {bundle(wrong, untagged), api.ErrLimit, 0}, {bundle(a, untagged, wrong), api.ErrArg, 0}, {bundle(a, a, wrong, untagged), api.ErrLimit, 0}, {bundle(a, untagged), api.ErrArg, 73}, {api.Bundle{}, api.ErrArg, 36},
	} {
		if got, e := Put(c.b); got != "" || e != c.want {
			t.Errorf("case %d: %d bytes, error %d, want %d", i, len(got), e, c.want)
		}
		if got := Size(c.b); got != c.size {
			t.Errorf("case %d: Size is %d, want %d", i, got, c.size)
		}
	}
}

func TestLimitOfAll(t *testing.T) { // 31.1, 31.2
	base := bundle(wide(65000), of(""))
	for _, n := range []int{65536, 65537} {
		b := base
		for fill := 0; Size(b) != n; fill++ {
			b.More = []api.Token{of(long(fill))}
		}
		s, e := Put(b)
		if n == 65536 && (len(s) != n || e != api.OK) || n > 65536 && (s != "" || e != api.ErrLimit) {
			t.Errorf("Put of %d bytes: %d bytes, error %d", n, len(s), e)
		}
		if n == 65536 {
			if got, e := Get(s); !same(got, b) || e != api.OK {
				t.Errorf("Get of %d bytes: error %d", n, e)
			}
			if got, e := Get(s + "x"); !same(got, api.Bundle{}) || e != api.ErrLimit {
				t.Errorf("Get of %d bytes: error %d", n+1, e)
			}
		}
	}
}

func TestGetRefuses(t *testing.T) { // 31.2
	a := encoded(of("a"))
	for _, c := range []struct {
		s    string
		want api.Errno
	}{
		{"", api.ErrEnd}, {"\x80", api.ErrEnd}, {"\x80\x00", api.ErrForm}, {"\x05abc", api.ErrEnd}, {"\x81\x80\x04", api.ErrLimit}, {long(65537), api.ErrLimit}, {"\x00", api.ErrEnd}, {"\x00\x80\x00", api.ErrEnd}, {field.Text("\x80\x00"), api.ErrForm}, {field.Text("\xb1\x20") + "\x09", api.ErrLimit}, {field.Text(a[1:] + "x"), api.ErrForm}, {field.Text(a[1:len(a)-1]) + "\x80", api.ErrEnd},
		{a, api.ErrEnd}, {a + "\x80\x00", api.ErrForm}, {a + "\x09", api.ErrLimit}, {a + "\x00x", api.ErrForm}, {a + "\x01", api.ErrEnd}, {a + "\x01\x00", api.ErrEnd}, {a + "\x01" + field.Text("\x01a\x41") + "x", api.ErrLimit}, {a + "\x02" + a, api.ErrEnd}, {a + "\x01" + a + a, api.ErrForm},
	} {
		if got, e := Get(c.s); !same(got, api.Bundle{}) || e != c.want {
			t.Errorf("Get(%.40q) = %v, error %d, want %d", c.s, got, e, c.want)
		}
	}
}

func TestInverses(t *testing.T) { // 31.3
	r := rand.New(rand.NewSource(31))
	for range 1000 {
		b := bundle(of(long(r.Intn(200))))
		for range r.Intn(9) {
			b.More = append(b.More, of(long(r.Intn(20)), link(long(r.Intn(9)), long(r.Intn(3)))))
		}
		s, e := Put(b)
		if got, f := Get(s); !same(got, b) || e != api.OK || f != api.OK || Size(b) != len(s) {
			t.Fatalf("Get(Put(%v)) = %v, errors %d, %d", b, got, e, f)
		}
		changed := []byte(s)
		changed[r.Intn(len(s))] ^= byte(1 << r.Intn(8))
		for _, other := range []string{string(changed), s[:r.Intn(len(s))], s + "\x00"} {
			if got, e := Get(other); e == api.OK {
				if again, _ := Put(got); again != other {
					t.Fatalf("Put(Get(%q)) = %q", other, again)
				}
			}
		}
	}
}
