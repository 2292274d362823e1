package rootid

import (
	"math"
	"math/rand"
	"strings"
	"testing"

	"porter/api"
)

var long = strings.Repeat("w", 32)

func root(tenant string, key, epoch, serial int) api.Root {
	return api.Root{Tenant: tenant, Key: key, Epoch: epoch, Serial: serial}
}

func TestPut(t *testing.T) { // 29.1
	const big = "\x80\x80\x80\x80\x80\x20"
	for _, c := range []struct {
		r    api.Root
		want string
	}{
		{root("acme", 1, 0, 300), "\x01\x04acme\x01\x00\xac\x02"}, {root("a", 0, 0, 0), "\x01\x01a\x00\x00\x00"}, {root(long, 1<<40, 1<<40, 1<<40), "\x01\x20" + long + big + big + big},
	} {
		if got, e := Put(c.r); got != c.want || e != api.OK {
			t.Errorf("Put(%v) = %q, error %d", c.r, got, e)
		}
	}
	for _, c := range []struct {
		r    api.Root
		want api.Errno
	}{
		{root("", 1, 1, 1), api.ErrName}, {root("A", -1, 1, 1), api.ErrName}, {root(long+"w", 1, 1, 1), api.ErrName}, {root("a b", 1, 1, 1), api.ErrName}, {root("a", -1, 1, 1), api.ErrLimit}, {root("a", 1, -1, 1), api.ErrLimit}, {root("a", 1, 1, math.MinInt), api.ErrLimit},
		{root("a", 1<<40+1, 1, 1), api.ErrLimit}, {root("a", 1, 1<<40+1, 1), api.ErrLimit}, {root("a", 1, 1, math.MaxInt), api.ErrLimit},
	} {
		if got, e := Put(c.r); got != "" || e != c.want {
			t.Errorf("Put(%v) = %q, error %d, want %d", c.r, got, e, c.want)
		}
	}
}

func TestGetRefuses(t *testing.T) { // 29.2
	const over = "\x81\x80\x80\x80\x80\x20" // 2^40 + 1
	for _, c := range []struct {
		s    string
		want api.Errno
	}{
		{"", api.ErrEnd}, {"\x00", api.ErrForm}, {"\x02\x01a\x00\x00\x00", api.ErrForm}, {"\x01", api.ErrEnd}, {"\x01\x04acm", api.ErrEnd}, {"\x01\x21" + long + "w", api.ErrLimit}, {"\x01\x21", api.ErrLimit}, {"\x01\x84\x00acme", api.ErrForm}, {"\x01\x80", api.ErrEnd},
		{"\x01\x00\x00\x00\x00", api.ErrName}, {"\x01\x01A\x00\x00\x00", api.ErrName}, {"\x01\x03a b", api.ErrName}, {"\x01\x01a", api.ErrEnd}, {"\x01\x01a\x80", api.ErrEnd}, {"\x01\x01a\x80\x00\x00\x00", api.ErrForm}, {"\x01\x01a" + over + "\x00\x00", api.ErrLimit}, {"\x01\x01a\x00" + over + "\x00", api.ErrLimit}, {"\x01\x01a\x00\x00" + over, api.ErrLimit},
		{"\x01\x01a\x00\x00", api.ErrEnd}, {"\x01\x01a\x00\x00\x80", api.ErrEnd}, {"\x01\x01a\x00\x00\x00\x00", api.ErrForm}, {"\x01\x01a\x00\x00\x00a", api.ErrForm},
	} {
		if got, e := Get(c.s); got != (api.Root{}) || e != c.want {
			t.Errorf("Get(%q) = %v, error %d, want %d", c.s, got, e, c.want)
		}
	}
}

func TestInverses(t *testing.T) { // 29.2, 29.3
	r := rand.New(rand.NewSource(29))
	encodings := map[string]api.Root{}
	for range 3000 {
		x := root([]string{"a", "acme", "a-1", long}[r.Intn(4)], r.Intn(300), r.Intn(3), r.Intn(1<<40+1))
		s, e := Put(x)
		if e != api.OK {
			t.Fatalf("Put(%v): error %d", x, e)
		}
		if got, e := Get(s); got != x || e != api.OK {
			t.Fatalf("Get(Put(%v)) = %v, error %d", x, got, e)
		}
		if other, seen := encodings[s]; seen && other != x {
			t.Fatalf("%v and %v have the same encoding", x, other)
		}
		encodings[s] = x
		changed := []byte(s)
		changed[r.Intn(len(s))] ^= byte(1 << r.Intn(8))
		for _, other := range []string{string(changed), s[:r.Intn(len(s))], s + "\x00"} {
			if got, e := Get(other); e == api.OK {
				if again, _ := Put(got); again != other {
					t.Fatalf("Put(Get(%q)) = %q", other, again)
				}
			}
		}
	}
}
