package octet

import (
	"encoding/hex"
	"math"
	"slices"
	"strings"
	"testing"
)

var samples = []string{"", "a", "ab", "abc", "abd", "b", "\x00", "\x00\x00", "\xff", "\xff\xfe", "a\xff", "a\x00b", "é", strings.Repeat("x", 300)}

func TestCompareEqualCommon(t *testing.T) { // 2.1
	for _, a := range samples {
		for _, b := range samples {
			if got, want := Compare(a, b), strings.Compare(a, b); got != want {
				t.Errorf("Compare(%q, %q) = %d, want %d", a, b, got, want)
			}
			if got := Equal(a, b); got != (a == b) {
				t.Errorf("Equal(%q, %q) = %v", a, b, got)
			}
			n := Common(a, b)
			if a[:n] != b[:n] || n < min(len(a), len(b)) && a[n] == b[n] {
				t.Errorf("Common(%q, %q) = %d", a, b, n)
			}
		}
	}
}

func TestEqualLooksAtEveryByte(t *testing.T) { // 2.1
	for i := range 40 {
		a := []byte(strings.Repeat("k", 40))
		a[i] ^= 0x80
		if Equal(string(a), strings.Repeat("k", 40)) {
			t.Errorf("a difference at %d is not seen", i)
		}
		a[39-i] ^= 0x80
		if i != 39-i && Equal(string(a), strings.Repeat("k", 40)) {
			t.Errorf("equal differences at %d and %d cancel out", i, 39-i)
		}
	}
}

func TestXor(t *testing.T) { // 2.2
	for _, c := range [][3]string{{"", "abc", ""}, {"abc", "", ""}, {"\x0f\xf0", "\xff\xff", "\xf0\x0f"}, {"abc", "a", "\x00"}, {"a", "abc", "\x00"}} {
		if got := Xor(c[0], c[1]); got != c[2] {
			t.Errorf("Xor(%q, %q) = %q, want %q", c[0], c[1], got, c[2])
		}
	}
}

func TestPad(t *testing.T) { // 2.2
	long := strings.Repeat("y", 70000)
	for _, c := range []struct {
		s    string
		n    int
		want string
	}{
		{"ab", 5, "ab\x00\x00\x00"}, {"ab", 2, "ab"}, {"ab", 1, "ab"}, {"ab", 0, "ab"}, {"ab", -1, "ab"},
		{"", 3, "\x00\x00\x00"}, {"", math.MinInt, ""}, {"ab", math.MinInt, "ab"}, {long, math.MaxInt, long},
		{"a", 65536, "a" + strings.Repeat("\x00", 65535)},
		{"a", 65537, "a" + strings.Repeat("\x00", 65535)},
		{"a", math.MaxInt, "a" + strings.Repeat("\x00", 65535)},
	} {
		if got := Pad(c.s, c.n); got != c.want {
			t.Errorf("Pad(%.5q, %d) has %d bytes, want %d", c.s, c.n, len(got), len(c.want))
		}
	}
}

func TestCut(t *testing.T) { // 2.2
	for _, c := range []struct {
		s    string
		size int
		want []string
	}{
		{"abcde", 2, []string{"ab", "cd", "e"}}, {"abcd", 2, []string{"ab", "cd"}}, {"abc", 1, []string{"a", "b", "c"}},
		{"abc", 3, []string{"abc"}}, {"abc", math.MaxInt, []string{"abc"}},
		{"", 2, nil}, {"abc", 0, nil}, {"abc", -1, nil}, {"abc", math.MinInt, nil},
	} {
		if got := Cut(c.s, c.size); !slices.Equal(got, c.want) {
			t.Errorf("Cut(%q, %d) = %q, want %q", c.s, c.size, got, c.want)
		}
	}
}

func TestHex(t *testing.T) { // 2.3
	for _, s := range samples {
		if got, want := Hex(s), hex.EncodeToString([]byte(s)); got != want {
			t.Errorf("Hex(%q) = %s, want %s", s, got, want)
		}
	}
}

func TestUnhexRefuses(t *testing.T) { // 2.3
	for _, s := range []string{"6", "6g", "g6", "6A", "A6", "0x", " 6", "6161f", "/0", ":0", "`0", "0@", "\xff\xff"} {
		if got, ok := Unhex(s); got != "" || ok {
			t.Errorf("Unhex(%q) = %q, %v", s, got, ok)
		}
	}
}

func TestInverses(t *testing.T) { // 2.4
	every := make([]byte, 256)
	for i := range every {
		every[i] = byte(i)
	}
	for _, s := range append(samples, string(every)) {
		if got, ok := Unhex(Hex(s)); got != s || !ok {
			t.Errorf("Unhex(Hex(%q)) = %q, %v", s, got, ok)
		}
		for size := 1; size < 9; size++ {
			if got := strings.Join(Cut(s, size), ""); got != s {
				t.Errorf("the pieces of Cut(%q, %d) are %q together", s, size, got)
			}
		}
		for _, key := range samples {
			n := min(len(s), len(key))
			if got := Xor(Xor(s, key), key); got != s[:n] {
				t.Errorf("Xor(%q, %q) twice is %q", s, key, got)
			}
		}
	}
}
