package record

import (
	"math/rand"
	"slices"
	"strings"
	"testing"

	"porter/api"
	"porter/field"
)

const (
	top = 1 << 40
	big = "\x80\x80\x80\x80\x80\x20" // 2^40
)

var (
	text = strings.Repeat("k", 32)
	long = strings.Repeat("w", 32)
)

func events() map[string]api.Event {
	return map[string]api.Event{
		"\x04\x00\x00\xac\x02\x00": {Kind: api.ESerial, Num: 300}, "\x04\x00\x00\x00\x00": {Kind: api.ESerial}, "\x04\x00\x00" + big + "\x00": {Kind: api.ESerial, Num: top},
		"\x01\x04acme\x05\x02\x00": {Kind: api.ETenant, Tenant: "acme", Epoch: 5, Num: 2}, "\x01\x20" + long + big + big + "\x00": {Kind: api.ETenant, Tenant: long, Epoch: top, Num: top}, "\x02\x01a\x00\x01\x20" + text: {Kind: api.EKey, Tenant: "a", Num: 1, Text: text}, "\x03\x01a\x00\x07\x00": {Kind: api.EDrop, Tenant: "a", Num: 7},
	}
}

func TestPutAndGet(t *testing.T) { // 39.1, 39.3
	for s, e := range events() {
		if got, code := Put(e); got != s || code != api.OK {
			t.Errorf("Put(%v) = %q, error %d", e, got, code)
		}
		if got, code := Get(s); got != e || code != api.OK {
			t.Errorf("Get(%q) = %v, error %d", s, got, code)
		}
	}
	for _, e := range []api.Event{{}, {Kind: 260, Num: 1}, {Kind: api.ESerial, Num: -1}, {Kind: api.ESerial, Text: "x"}, {Kind: api.ETenant, Tenant: "A", Num: 1}, {Kind: api.EKey, Tenant: "a", Num: 1}, {Kind: api.EDrop, Tenant: "a"}} {
		if got, code := Put(e); got != "" || code != api.ErrForm {
			t.Errorf("Put(%v) = %q, error %d", e, got, code)
		}
	}
}

func TestGetRefuses(t *testing.T) { // 39.1
	const over = "\x81\x80\x80\x80\x80\x20" // 2^40 + 1
	for _, c := range []struct {
		s    string
		want api.Errno
	}{
		{"", api.ErrEnd}, {"\x04", api.ErrEnd}, {"\x00", api.ErrEnd}, {"\x04\x80\x00", api.ErrForm}, {"\x04\x21", api.ErrLimit}, {"\x01\x04acm", api.ErrEnd}, {"\x01\x04acme", api.ErrEnd}, {"\x01\x04acme\x80", api.ErrEnd}, {"\x01\x04acme\x80\x00", api.ErrForm}, {"\x01\x04acme" + over, api.ErrLimit}, {"\x01\x04acme\x00" + over + "\x00", api.ErrLimit},
		{"\x01\x04acme\x00\x01", api.ErrEnd}, {"\x01\x04acme\x00\x01\x21" + long + "x", api.ErrLimit}, {"\x01\x04acme\x00\x01\x02x", api.ErrEnd}, {"\x01\x04acme\x00\x01\x00x", api.ErrForm},
		{"\x00\x00\x00\x00\x00", api.ErrForm}, {"\x05\x00\x00\x00\x00", api.ErrForm}, {"\x04\x01a\x00\x00\x00", api.ErrForm}, {"\x01\x04acmE\x00\x01\x00", api.ErrForm}, {"\x01\x04acme\x00\x00\x00", api.ErrForm}, {"\x01\x04acme\x00\x01\x01x", api.ErrForm}, {"\x02\x01a\x00\x01\x1f" + text[1:], api.ErrForm}, {"\x03\x01a\x01\x01\x00", api.ErrForm},
	} {
		if got, code := Get(c.s); got != (api.Event{}) || code != c.want {
			t.Errorf("Get(%q) = %v, error %d, want %d", c.s, got, code, c.want)
		}
	}
}

func TestBatchAndRead(t *testing.T) { // 39.2, 39.3
	serial := api.Event{Kind: api.ESerial, Num: 1}
	key := api.Event{Kind: api.EKey, Tenant: long, Num: top, Text: text}
	a, _ := Put(serial)
	b, _ := Put(key)
	for _, c := range []struct {
		l    []api.Event
		want string
	}{
		{nil, "\x00"}, {[]api.Event{serial}, "\x01" + field.Text(a)}, {[]api.Event{key, serial, key}, "\x03" + field.Text(b) + field.Text(a) + field.Text(b)}, {slices.Repeat([]api.Event{serial}, 256), "\x80\x02" + strings.Repeat(field.Text(a), 256)},
	} {
		if got, code := Batch(c.l); got != c.want || code != api.OK {
			t.Errorf("Batch of %d events has %d bytes, error %d", len(c.l), len(got), code)
		}
		if got, code := Read(c.want); !slices.Equal(got, c.l) || code != api.OK {
			t.Errorf("Read of %d events = %v, error %d", len(c.l), got, code)
		}
	}
	for i, c := range []struct {
		l    []api.Event
		want api.Errno
	}{
		{slices.Repeat([]api.Event{serial}, 257), api.ErrLimit}, {make([]api.Event, 257), api.ErrLimit}, {[]api.Event{serial, {}}, api.ErrForm}, {make([]api.Event, 256), api.ErrForm},
	} {
		if got, code := Batch(c.l); got != "" || code != c.want {
			t.Errorf("case %d: %d bytes, error %d, want %d", i, len(got), code, c.want)
		}
	}
}

func TestReadRefuses(t *testing.T) { // 39.2
	a := field.Text("\x04\x00\x00\x01\x00")
	for _, c := range []struct {
		s    string
		want api.Errno
	}{
		{"", api.ErrEnd}, {"\x80", api.ErrEnd}, {"\x80\x00", api.ErrForm}, {"\x81\x02", api.ErrLimit}, {"\x01", api.ErrEnd}, {"\x01\x81\x01", api.ErrLimit}, {"\x01\x81\x01" + strings.Repeat("x", 129), api.ErrLimit}, {"\x01\x05abc", api.ErrEnd}, {"\x01\x00", api.ErrEnd}, {"\x01" + field.Text("\x04\x21"), api.ErrLimit}, {"\x01" + field.Text("\x09\x00\x00\x00\x00") + "x", api.ErrForm},
		{"\x02" + a, api.ErrEnd}, {"\x01" + a + "x", api.ErrForm}, {"\x00x", api.ErrForm}, {"\x02" + a + field.Text("\x04\x00\x00"), api.ErrEnd}, {"\x02" + field.Text("\x04\x21") + "\x81\x01", api.ErrLimit}, {"\x02" + field.Text("\x05\x00\x00\x00\x00") + "\x81\x01", api.ErrForm},
	} {
		if got, code := Read(c.s); len(got) != 0 || code != c.want {
			t.Errorf("Read(%q) = %v, error %d, want %d", c.s, got, code, c.want)
		}
	}
}

func TestInverses(t *testing.T) { // 39.3
	r := rand.New(rand.NewSource(39))
	for range 2000 {
		var l []api.Event
		for range r.Intn(5) {
			l = append(l, []api.Event{{Kind: api.ETenant, Tenant: "a", Epoch: r.Intn(300), Num: 1 + r.Intn(top)}, {Kind: api.EKey, Tenant: long, Num: 1 + r.Intn(300), Text: text}, {Kind: api.EDrop, Tenant: "b-1", Num: 1 + r.Intn(9)}, {Kind: api.ESerial, Num: r.Intn(top + 1)}}[r.Intn(4)])
		}
		s, code := Batch(l)
		if got, e := Read(s); !slices.Equal(got, l) || code != api.OK || e != api.OK {
			t.Fatalf("Read(Batch(%v)) = %v, errors %d, %d", l, got, code, e)
		}
		changed := []byte(s)
		changed[r.Intn(len(s))] ^= byte(1 << r.Intn(8))
		for _, other := range []string{string(changed), s[:r.Intn(len(s))], s + "\x00"} {
			if got, e := Read(other); e == api.OK {
				if again, _ := Batch(got); again != other {
					t.Fatalf("Batch(Read(%q)) = %q", other, again)
				}
			}
		}
	}
}
