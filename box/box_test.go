package box

import (
	"strings"
	"testing"

	"porter/api"
	"porter/hmac"
	"porter/stream"
)

const nonce = "0123456789abcdef"

var key = strings.Repeat("k", 32)

func seal(t *testing.T, key, text string) string {
	t.Helper()
	s, e := Seal(key, nonce, text)
	if e != api.OK {
		t.Fatalf("Seal of %d bytes: error %d", len(text), e)
	}
	return s
}

func TestSeal(t *testing.T) { // 6.1
	for _, n := range []int{0, 1, 33, 4096} {
		text := strings.Repeat("t", n)
		body := nonce + stream.Mix(hmac.Parts(key, "hide"), nonce, text)
		if got := seal(t, key, text); got != body+hmac.Sum(hmac.Parts(key, "tag"), body) {
			t.Errorf("the box of %d bytes is wrong", n)
		}
	}
}

func TestSealRefuses(t *testing.T) { // 6.1
	long := strings.Repeat("t", 4097)
	for _, c := range []struct {
		nonce, text string
		want        api.Errno
	}{
		{"", "a", api.ErrArg}, {nonce[1:], "a", api.ErrArg}, {nonce + "0", "a", api.ErrArg},
		{nonce, long, api.ErrLimit}, {"", long, api.ErrArg},
	} {
		if s, e := Seal(key, c.nonce, c.text); s != "" || e != c.want {
			t.Errorf("Seal with %q of %d bytes: %d bytes, error %d", c.nonce, len(c.text), len(s), e)
		}
	}
}

func TestOpenInvertsSeal(t *testing.T) { // 6.2, 6.3
	for _, k := range []string{"", "k", key, strings.Repeat("k", 100)} {
		for _, text := range []string{"", "a", strings.Repeat("\x00\xff", 100), strings.Repeat("t", 4096)} {
			s := seal(t, k, text)
			got, e := Open(k, s)
			if got != text || e != api.OK {
				t.Errorf("Open of the box of %d bytes: error %d", len(text), e)
			}
			if again, e := Seal(k, Nonce(s), got); again != s || e != api.OK {
				t.Error("sealing it again yields another box")
			}
		}
	}
}

func TestOpenRefuses(t *testing.T) { // 6.2
	good := seal(t, key, "hello")
	bad := strings.Repeat("b", 48)
	for _, c := range []struct {
		s    string
		want api.Errno
	}{
		{"", api.ErrEnd}, {bad[:47], api.ErrEnd}, {seal(t, key, "")[:47], api.ErrEnd}, {bad, api.ErrTag},
		{strings.Repeat("b", 4144), api.ErrTag}, {strings.Repeat("b", 4145), api.ErrLimit},
		{good + "x", api.ErrTag}, {good[1:], api.ErrTag},
	} {
		if text, e := Open(key, c.s); text != "" || e != c.want {
			t.Errorf("Open of %d bytes: %q, error %d, want %d", len(c.s), text, e, c.want)
		}
	}
	for i := range len(good) {
		changed := []byte(good)
		changed[i] ^= 1
		if text, e := Open(key, string(changed)); text != "" || e != api.ErrTag {
			t.Errorf("Open with byte %d changed: %q, error %d", i, text, e)
		}
	}
}

func TestOtherKeysDoNotOpen(t *testing.T) { // 6.3
	s := seal(t, key, "hello")
	for i := range len(key) {
		other := []byte(key)
		other[i] ^= 0x40
		if text, e := Open(string(other), s); text != "" || e != api.ErrTag {
			t.Errorf("a key with byte %d changed opens the box", i)
		}
	}
}

func TestNonce(t *testing.T) { // 6.2
	for _, c := range [][2]string{{"", ""}, {nonce[:15], ""}, {nonce, nonce}, {nonce + "rest", nonce}} {
		if got := Nonce(c[0]); got != c[1] {
			t.Errorf("Nonce(%q) = %q", c[0], got)
		}
	}
}
