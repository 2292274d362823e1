package holder

import (
	"slices"
	"strings"
	"testing"

	"porter/api"
	"porter/box"
	"porter/chain"
)

const nonce = "0123456789abcdef"

var key = strings.Repeat("k", 32)

func same(a, b api.Token) bool {
	return a.ID == b.ID && a.Tag == b.Tag && slices.Equal(a.Links, b.Links)
}

// made returns a token with n links and the right Tag.
func made(n int) api.Token {
	t := api.Token{ID: "id", Links: slices.Repeat([]api.Link{{Text: "x"}}, n)}
	t.Tag = chain.Last(key, t)
	return t
}

func TestAdd(t *testing.T) { // 35.1, 35.4
	for _, n := range []int{0, 1, 63} {
		for _, text := range []string{"", "before 9", strings.Repeat("x", 2048)} {
			before := made(n)
			got, e := Add(before, text)
			l := api.Link{Text: text}
			want := api.Token{ID: "id", Links: append(slices.Clone(before.Links), l), Tag: chain.Next(before.Tag, l)}
			if e != api.OK || !same(got, want) || got.Tag != chain.Last(key, got) {
				t.Errorf("Add of %d bytes to %d links: %v, error %d", len(text), n, got, e)
			}
		}
	}
	for _, c := range []struct {
		n    int
		text string
	}{{64, ""}, {65, ""}, {0, strings.Repeat("x", 2049)}} {
		if got, e := Add(made(c.n), c.text); e != api.ErrLimit || !same(got, api.Token{}) {
			t.Errorf("Add of %d bytes to %d links: error %d", len(c.text), c.n, e)
		}
	}
	// The Tag need not be right, and the token not valid.
	odd := api.Token{Tag: "odd"}
	if got, e := Add(odd, "x"); e != api.OK || got.Tag != chain.Next("odd", api.Link{Text: "x"}) {
		t.Errorf("Add to an odd token: %v, error %d", got, e)
	}
}

func TestThird(t *testing.T) { // 35.2, 35.4
	for _, n := range []int{0, 63} {
		for _, cid := range []string{"", "ticket", strings.Repeat("x", 4144)} {
			before := made(n)
			got, e := Third(before, cid, "the caveat's key", nonce)
			if e != api.OK || len(got.Links) != n+1 || got.ID != "id" {
				t.Fatalf("Third: %v, error %d", got, e)
			}
			l := got.Links[n]
			text, e := box.Open(chain.Seal(before.Tag), l.Seal)
			if l.Text != cid || text != "the caveat's key" || e != api.OK || box.Nonce(l.Seal) != nonce {
				t.Errorf("the link is %v, its key %q, error %d", l, text, e)
			}
			if got.Tag != chain.Next(before.Tag, l) || got.Tag != chain.Last(key, got) || !slices.Equal(got.Links[:n], before.Links) {
				t.Error("the token is wrong")
			}
		}
	}
	long := strings.Repeat("x", 4145)
	for i, c := range []struct {
		n               int
		cid, key, nonce string
		want            api.Errno
	}{
		{64, "", "", nonce, api.ErrLimit}, {64, "", "", "", api.ErrLimit}, {0, long, "", "", api.ErrLimit}, {0, "", "", "", api.ErrArg}, {0, "", long, nonce[1:], api.ErrArg}, {0, "", long[:4097], nonce, api.ErrLimit}, {0, "", long[:4096], nonce, api.OK},
	} {
		if got, e := Third(made(c.n), c.cid, c.key, c.nonce); e != c.want || e != api.OK && !same(got, api.Token{}) {
			t.Errorf("case %d: error %d, want %d", i, e, c.want)
		}
	}
}

func TestBindAndBundle(t *testing.T) { // 35.3
	tok, discharge := made(2), api.Token{ID: "d", Links: []api.Link{{Text: "y", Seal: "z"}}, Tag: "tag"}
	bound := Bind(tok, discharge)
	if bound.ID != "d" || !slices.Equal(bound.Links, discharge.Links) || bound.Tag != chain.Bind(tok.Tag, "tag") {
		t.Errorf("Bind = %v", bound)
	}
	if b := Bundle(tok); !same(b.Token, tok) || len(b.More) != 0 {
		t.Errorf("Bundle without discharges = %v", b)
	}
	b := Bundle(tok, discharge, made(0), discharge)
	if !same(b.Token, tok) || len(b.More) != 3 || !same(b.More[0], bound) || !same(b.More[1], Bind(tok, made(0))) || !same(b.More[2], bound) {
		t.Errorf("Bundle = %v", b)
	}
}

func TestNothingIsShared(t *testing.T) {
	tok := made(2)
	tok.Links = slices.Grow(tok.Links, 9) // capacity that an append would use
	a, _ := Add(tok, "a")
	b, _ := Add(tok, "b")
	c, _ := Third(tok, "c", "", nonce)
	bundle := Bundle(tok, tok, tok)
	lists := [][]api.Link{a.Links, b.Links, c.Links, bundle.Token.Links, bundle.More[0].Links, bundle.More[1].Links, Bind(tok, tok).Links}
	if a.Links[2].Text != "a" || b.Links[2].Text != "b" {
		t.Error("derived tokens share their links")
	}
	for i, l := range lists {
		l[0].Text = "changed"
		for k, other := range append(lists[i+1:], tok.Links) {
			if other[0].Text != "x" {
				t.Fatalf("list %d shares memory with list %d behind it", i, k)
			}
		}
	}
}
