package hmac

import (
	"crypto/hmac"
	"crypto/sha256"
	"encoding/hex"
	"math/rand"
	"slices"
	"strings"
	"testing"
)

func library(key, text string) string {
	h := hmac.New(sha256.New, []byte(key))
	h.Write([]byte(text))
	return string(h.Sum(nil))
}

func TestSum(t *testing.T) { // 4.1
	got := hex.EncodeToString([]byte(Sum("key", "The quick brown fox jumps over the lazy dog")))
	if got != "f7bc83f430538424b13298e6aa6fb143ef4d59a14946175997479dbc2d1a3cd8" {
		t.Errorf("the example's tag is %s", got)
	}
	// Keys of more than 64 bytes are hashed first, those of exactly 64 bytes are not.
	for _, n := range []int{0, 1, 31, 32, 63, 64, 65, 128, 1000} {
		for _, m := range []int{0, 1, 55, 56, 64, 500} {
			key, text := strings.Repeat("k\xff", n)[:n], strings.Repeat("t\x00e", m)[:m]
			if Sum(key, text) != library(key, text) {
				t.Errorf("wrong tag for a key of %d and a text of %d bytes", n, m)
			}
		}
	}
}

var lists = [][]string{nil, {""}, {"", ""}, {"ab"}, {"a", "b"}, {"", "ab"}, {"ab", ""}, {"b", "a"}, {"\x00\x00\x00\x00\x00\x00\x00\x00"}, {strings.Repeat("x", 300), "y"}}

func TestParts(t *testing.T) { // 4.1
	for _, l := range lists {
		if Parts("key", l...) != library("key", Frame(l...)) {
			t.Errorf("Parts(%q) is not the tag of the frame", l)
		}
	}
}

func TestFrame(t *testing.T) { // 4.2
	const zeros = "\x00\x00\x00\x00\x00\x00"
	for _, c := range []struct {
		parts []string
		want  string
	}{
		{nil, ""}, {[]string{""}, zeros + "\x00\x00"}, {[]string{"ab"}, zeros + "\x00\x02ab"},
		{[]string{"ab", "", "c"}, zeros + "\x00\x02ab" + zeros + "\x00\x00" + zeros + "\x00\x01c"},
		{[]string{strings.Repeat("x", 258)}, zeros + "\x01\x02" + strings.Repeat("x", 258)},
	} {
		if got := Frame(c.parts...); got != c.want {
			t.Errorf("Frame(%.20q) = %.40q", c.parts, got)
		}
	}
}

func TestSplit(t *testing.T) { // 4.2, 4.4
	for _, l := range lists {
		if got, ok := Split(Frame(l...)); !ok || !slices.Equal(got, l) {
			t.Errorf("Split(Frame(%.20q)) = %.20q, %v", l, got, ok)
		}
	}
	frame := Frame("ab", "c")
	bad := []string{"\x00", frame + "\x00", "\xff\xff\xff\xff\xff\xff\xff\xffa", "\x80\x00\x00\x00\x00\x00\x00\x00", "\x00\x00\x00\x00\x00\x00\x00\x01"}
	for i := 1; i < len(frame); i++ {
		if i != len(Frame("ab")) {
			bad = append(bad, frame[:i])
		}
	}
	for _, s := range bad {
		if got, ok := Split(s); ok || len(got) != 0 {
			t.Errorf("Split(%q) = %q, %v", s, got, ok)
		}
	}
}

func TestSame(t *testing.T) { // 4.3
	tag := strings.Repeat("t", 32)
	other := strings.Repeat("t", 31) + "u"
	for _, c := range []struct {
		a, b string
		want bool
	}{
		{tag, tag, true}, {tag, other, false}, {other, tag, false}, {"", "", false}, {tag, "", false},
		{tag[:31], tag[:31], false}, {tag + "t", tag + "t", false}, {tag, tag[:31], false},
	} {
		if got := Same(c.a, c.b); got != c.want {
			t.Errorf("Same(%q, %q) = %v", c.a, c.b, got)
		}
	}
}

func TestDifferentListsHaveDifferentFramesAndTags(t *testing.T) { // 4.4
	frames, tags := map[string]bool{}, map[string]bool{}
	for _, l := range lists {
		frames[Frame(l...)] = true
		for _, key := range []string{strings.Repeat("a", 32), strings.Repeat("b", 32), strings.Repeat("\x00", 32)} {
			tags[Parts(key, l...)] = true
		}
	}
	if len(frames) != len(lists) || len(tags) != 3*len(lists) {
		t.Errorf("%d frames and %d tags of %d lists", len(frames), len(tags), len(lists))
	}
}

func TestSplitOfAnything(t *testing.T) { // 4.2: what is split is a frame
	r := rand.New(rand.NewSource(4))
	for range 2000 {
		s := make([]byte, r.Intn(30))
		for i := range s {
			s[i] = byte(r.Intn(2) * r.Intn(3))
		}
		if l, ok := Split(string(s)); ok && Frame(l...) != string(s) {
			t.Errorf("Split(%q) = %q", s, l)
		}
	}
}
