package notary

import (
	"slices"
	"strings"
	"testing"

	"porter/api"
	"porter/box"
	"porter/chain"
	"porter/hmac"
)

const nonce = "0123456789abcdef"

var (
	own  = strings.Repeat("n", 32)
	room = 4096 - 16 // for the parts of a frame
)

// sealed returns a box of the notary with any content.
func sealed(content string) string {
	s, _ := box.Seal(own, nonce, content)
	return s
}

func TestTicket(t *testing.T) { // 36.1
	got, e := Ticket(own, nonce, "k", "is it monday")
	if e != api.OK || got != sealed(hmac.Frame("k", "is it monday")) {
		t.Errorf("Ticket = %q, error %d", got, e)
	}
	for _, c := range []struct {
		nonce, key, text string
		want             api.Errno
	}{
		{"", "k", "t", api.ErrArg}, {nonce + "0", "k", strings.Repeat("t", 5000), api.ErrArg}, {nonce, "", strings.Repeat("t", room), api.OK}, {nonce, "k", strings.Repeat("t", room), api.ErrLimit}, {nonce, strings.Repeat("k", room+1), "", api.ErrLimit},
	} {
		if got, e := Ticket(own, c.nonce, c.key, c.text); e != c.want || e != api.OK && got != "" {
			t.Errorf("Ticket with %q: error %d, want %d", c.nonce, e, c.want)
		}
	}
}

func TestReadInvertsTicket(t *testing.T) { // 36.2, 36.4
	for _, key := range []string{"", "k", strings.Repeat("k", 32)} {
		for _, text := range []string{"", "is it monday", "\x00\xff"} {
			ticket, _ := Ticket(own, nonce, key, text)
			k, s, e := Read(own, ticket)
			if k != key || s != text || e != api.OK {
				t.Errorf("Read of the ticket for %q and %q = %q, %q, error %d", key, text, k, s, e)
			}
		}
	}
}

func TestReadRefuses(t *testing.T) { // 36.2, 36.3
	good, _ := Ticket(own, nonce, "k", "text")
	for i, c := range []struct {
		notary, ticket string
		want           api.Errno
	}{
		{own, "", api.ErrEnd}, {own, good[:47], api.ErrEnd}, {own, good[1:], api.ErrTag}, {own, strings.Repeat("x", 4145), api.ErrLimit}, {"other", good, api.ErrTag},
		{own, sealed(""), api.ErrForm}, {own, sealed("k"), api.ErrForm}, {own, sealed(hmac.Frame("k")), api.ErrForm}, {own, sealed(hmac.Frame("k", "t", "")), api.ErrForm}, {own, sealed(hmac.Frame("k", "t", "u", "v")), api.ErrForm}, {own, sealed(hmac.Frame("k", "t") + "x"), api.ErrForm}, {own, sealed(hmac.Frame("k", "tt")[:17]), api.ErrForm},
	} {
		if k, s, e := Read(c.notary, c.ticket); k != "" || s != "" || e != c.want {
			t.Errorf("case %d: Read = %q, %q, error %d, want %d", i, k, s, e, c.want)
		}
		if d, e := Discharge(c.notary, c.ticket, "before 9"); d.ID != "" || d.Tag != "" || len(d.Links) != 0 || e != c.want {
			t.Errorf("case %d: Discharge = %v, error %d, want %d", i, d, e, c.want)
		}
	}
}

func TestDischarge(t *testing.T) { // 36.3, 36.4
	key := strings.Repeat("k", 32)
	ticket, _ := Ticket(own, nonce, key, "text")
	for _, caveats := range [][]string{nil, {"before 9"}, {"a", "", "c"}, slices.Repeat([]string{"x"}, 64)} {
		d, e := Discharge(own, ticket, caveats...)
		if e != api.OK || d.ID != ticket || len(d.Links) != len(caveats) || d.Tag != chain.Last(key, d) {
			t.Fatalf("Discharge with %q = %v, error %d", caveats, d, e)
		}
		for i, text := range caveats {
			if d.Links[i] != (api.Link{Text: text}) {
				t.Errorf("link %d is %v", i, d.Links[i])
			}
		}
	}
	for _, caveats := range [][]string{slices.Repeat([]string{"x"}, 65), {"a", strings.Repeat("x", 2049), "b"}} {
		if d, e := Discharge(own, ticket, caveats...); e != api.ErrLimit || d.ID != "" || len(d.Links) != 0 || d.Tag != "" {
			t.Errorf("Discharge with too much = %v, error %d", d, e)
		}
	}
}
