package varint

import (
	"encoding/binary"
	"math"
	"math/rand"
	"strings"
	"testing"

	"porter/api"
)

func numbers() []uint64 {
	l := []uint64{0, 1, 300, math.MaxUint64}
	for i := range 64 {
		l = append(l, 1<<i-1, 1<<i, 1<<i+1)
	}
	return l
}

func TestPutAndSize(t *testing.T) { // 7.1
	if got := Put(300); got != "\xac\x02" {
		t.Errorf("Put(300) = %q", got)
	}
	for _, n := range numbers() {
		want := string(binary.AppendUvarint(nil, n))
		if got := Put(n); got != want || Size(n) != len(want) {
			t.Errorf("Put(%d) = %q, Size %d, want %q", n, got, Size(n), want)
		}
	}
}

func TestTakeInvertsPut(t *testing.T) { // 7.3
	for _, n := range numbers() {
		for _, rest := range []string{"", "\x00", "\x80", "\xff\xff\xff\xff\xff\xff\xff\xff\xff\xff\xff", "abc"} {
			if got, used, e := Take(Put(n) + rest); got != n || used != Size(n) || e != api.OK {
				t.Errorf("Take(Put(%d) + %q) = %d, %d, error %d", n, rest, got, used, e)
			}
		}
	}
}

func TestTakeRefuses(t *testing.T) { // 7.2
	ff := func(n int) string { return strings.Repeat("\xff", n) }
	for _, c := range []struct {
		s    string
		want api.Errno
	}{
		{"", api.ErrEnd}, {"\x80", api.ErrEnd}, {ff(9), api.ErrEnd},
		{ff(10), api.ErrForm}, {ff(11), api.ErrForm}, {ff(10) + "\x01", api.ErrForm}, {strings.Repeat("\x80", 10), api.ErrForm},
		{"\x80\x00", api.ErrForm}, {"\xac\x82\x00", api.ErrForm}, {strings.Repeat("\x80", 9) + "\x00", api.ErrForm},
		{ff(9) + "\x02", api.ErrForm}, {ff(9) + "\x7f", api.ErrForm}, {strings.Repeat("\x80", 9) + "\x03", api.ErrForm},
	} {
		if n, used, e := Take(c.s); n != 0 || used != 0 || e != c.want {
			t.Errorf("Take(%q) = %d, %d, error %d, want %d", c.s, n, used, e, c.want)
		}
	}
	if n, used, e := Take(ff(9) + "\x01"); n != math.MaxUint64 || used != 10 || e != api.OK {
		t.Errorf("the greatest integer is %d, %d, error %d", n, used, e)
	}
}

func TestPutInvertsTake(t *testing.T) { // 7.3
	r := rand.New(rand.NewSource(7))
	for range 20000 {
		s := make([]byte, r.Intn(12))
		for i := range s {
			s[i] = byte(r.Intn(256)) | byte(r.Intn(2))<<7
		}
		if n, used, e := Take(string(s)); e == api.OK && Put(n) != string(s[:used]) {
			t.Errorf("Take(%q) = %d, %d", s, n, used)
		}
	}
}

func TestNoEncodingIsAPrefixOfAnother(t *testing.T) { // 7.3
	for _, a := range numbers() {
		for _, b := range numbers() {
			if a != b && strings.HasPrefix(Put(b), Put(a)) {
				t.Errorf("Put(%d) is a prefix of Put(%d)", a, b)
			}
		}
	}
}
