package field

import (
	"math"
	"strings"
	"testing"

	"porter/api"
	"porter/varint"
)

func TestNumAndText(t *testing.T) { // 8.1
	for _, n := range []uint64{0, 127, 128, 300, math.MaxUint64} {
		if got := Num(n); got != varint.Put(n) {
			t.Errorf("Num(%d) = %q", n, got)
		}
	}
	for _, c := range [][2]string{{"", "\x00"}, {"ab", "\x02ab"}, {strings.Repeat("x", 300), "\xac\x02" + strings.Repeat("x", 300)}} {
		if got := Text(c[0]); got != c[1] {
			t.Errorf("Text(%.9q) = %.9q", c[0], got)
		}
	}
}

func TestFieldsInOrder(t *testing.T) { // 8.2, 8.4
	r := New("\x07" + Num(300) + Text("ab") + Text("") + "\xff" + Num(math.MaxUint64))
	if r.Left() != 1+2+3+1+1+10 {
		t.Errorf("Left is %d", r.Left())
	}
	if b, n, s, none := r.Byte(), r.Num(300), r.Text(2), r.Text(0); b != 7 || n != 300 || s != "ab" || none != "" {
		t.Errorf("the fields are %d, %d, %q, %q", b, n, s, none)
	}
	if r.Left() != 11 || r.Err() != api.OK {
		t.Errorf("Left %d, Err %d", r.Left(), r.Err())
	}
	if b, n := r.Byte(), r.Num(math.MaxUint64); b != 255 || n != math.MaxUint64 {
		t.Errorf("the last fields are %d, %d", b, n)
	}
	if r.Left() != 0 || r.End() != api.OK || r.End() != api.OK {
		t.Errorf("End is %d", r.End())
	}
}

func TestLastFields(t *testing.T) { // 8.2, 8.4
	r := New("\x02ab")
	if s := r.Text(2); s != "ab" || r.End() != api.OK {
		t.Errorf("a string at the end: %q, error %d", s, r.Err())
	}
	r = New("a")
	if b := r.Byte(); b != 'a' || r.End() != api.OK {
		t.Errorf("a byte at the end: %d, error %d", b, r.Err())
	}
}

func TestFirstError(t *testing.T) { // 8.2
	takeByte := func(r *Reader) bool { return r.Byte() == 0 }
	num := func(most uint64) func(*Reader) bool { return func(r *Reader) bool { return r.Num(most) == 0 } }
	text := func(most int) func(*Reader) bool { return func(r *Reader) bool { return r.Text(most) == "" } }
	for i, c := range []struct {
		s    string
		read func(*Reader) bool
		want api.Errno
	}{
		{"", takeByte, api.ErrEnd},
		{"", num(9), api.ErrEnd}, {"\x80", num(9), api.ErrEnd}, {"\x80\x00", num(9), api.ErrForm}, {"\x0a", num(9), api.ErrLimit},
		{strings.Repeat("\xff", 10), num(0), api.ErrForm}, {"\x01", num(0), api.ErrLimit},
		{"\x05a", text(9), api.ErrEnd}, {"\x05a", text(4), api.ErrLimit}, {"\x05a", text(5), api.ErrEnd},
		{"", text(9), api.ErrEnd}, {"\x80\x00", text(9), api.ErrForm}, {"\x01a", text(0), api.ErrLimit},
		{"\x01a", text(-1), api.ErrLimit}, {"\x01a", text(math.MinInt), api.ErrLimit},
		{Num(math.MaxUint64) + "abc", text(math.MaxInt), api.ErrLimit}, {Num(math.MaxInt64) + "abc", text(math.MaxInt), api.ErrEnd},
	} {
		r := New(c.s)
		if !c.read(r) || r.Err() != c.want || r.Left() != 0 {
			t.Errorf("case %d (%q): error %d, %d left, want error %d", i, c.s, r.Err(), r.Left(), c.want)
		}
	}
	if r := New("\x00abc"); r.Text(-1) != "" || r.Err() != api.OK || r.Left() != 3 {
		t.Error("a negative most does not count as 0")
	}
}

func TestFailedReader(t *testing.T) { // 8.2, 8.3
	r := New("\x05\x01\x01a")
	r.Num(4)
	if r.Byte() != 0 || r.Num(9) != 0 || r.Text(9) != "" || r.Left() != 0 {
		t.Error("a reader that has failed yields results")
	}
	r.Fail(api.ErrArg)
	if r.Err() != api.ErrLimit || r.End() != api.ErrLimit {
		t.Errorf("the first error is not kept: %d", r.Err())
	}
}

func TestFail(t *testing.T) { // 8.3
	r := New("ab")
	r.Fail(api.OK)
	if r.Err() != api.OK || r.Left() != 2 || r.Byte() != 'a' {
		t.Error("Fail of OK changes the reader")
	}
	r.Fail(api.ErrName)
	r.Fail(api.ErrForm)
	if r.Err() != api.ErrName || r.Left() != 0 || r.Byte() != 0 || r.End() != api.ErrName {
		t.Errorf("after Fail: error %d, %d left", r.Err(), r.Left())
	}
}

func TestEnd(t *testing.T) { // 8.3
	r := New("ab")
	if r.End() != api.ErrForm || r.Err() != api.ErrForm || r.Left() != 0 || r.Byte() != 0 {
		t.Errorf("End with two bytes left: %d, then %d left", r.Err(), r.Left())
	}
	if r := New("a"); r.End() != api.ErrForm || r.Left() != 0 {
		t.Error("a single byte that remains is no error")
	}
	if r := New(""); r.End() != api.OK || r.Byte() != 0 || r.End() != api.ErrEnd {
		t.Error("wrong End of an empty string")
	}
}

func TestReadersThatNewDidNotMake(t *testing.T) { // 8.3
	for _, r := range []*Reader{nil, {}} {
		r.Fail(api.ErrForm)
		if r.Byte() != 0 || r.Num(9) != 0 || r.Text(9) != "" || r.Left() != 0 || r.Err() != api.ErrNil || r.End() != api.ErrNil {
			t.Errorf("%v does not do nothing", r)
		}
	}
}
