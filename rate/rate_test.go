package rate

import (
	"fmt"
	"math"
	"math/rand"
	"strings"
	"testing"

	"porter/api"
)

const top = 1 << 40

func class(name string, most, fill int) api.Class {
	return api.Class{Name: name, Cap: most, Fill: fill}
}

func many(n int) []api.Class {
	var l []api.Class
	for i := range n {
		l = append(l, class(fmt.Sprintf("c%d", i), 1, 1))
	}
	return l
}

func made(t *testing.T, now int, l ...api.Class) *Rates {
	t.Helper()
	r, e := New(l, now)
	if r == nil || e != api.OK {
		t.Fatalf("New: error %d", e)
	}
	return r
}

func TestCheckAndNew(t *testing.T) { // 46.1
	for i, c := range []struct {
		l    []api.Class
		want api.Errno
	}{
		{nil, api.OK}, {many(8), api.OK}, {[]api.Class{class("a", 0, 0), class("b", top, top)}, api.OK}, {many(9), api.ErrLimit}, {append(many(8), class("", -1, 0)), api.ErrLimit},
		{[]api.Class{class("", -1, 0)}, api.ErrName}, {[]api.Class{class("A", 1, 1)}, api.ErrName}, {[]api.Class{class(strings.Repeat("w", 33), 1, 1)}, api.ErrName}, {[]api.Class{class("a", -1, 0)}, api.ErrArg}, {[]api.Class{class("a", 0, -1)}, api.ErrArg}, {[]api.Class{class("a", top+1, 0)}, api.ErrArg}, {[]api.Class{class("a", 0, top+1)}, api.ErrArg},
		{[]api.Class{class("a", 1, 1), class("a", 2, 2)}, api.ErrTwice}, {[]api.Class{class("a", 1, 1), class("b", 1, 1), class("a", -1, 2)}, api.ErrArg}, {[]api.Class{class("a", 1, 1), class("a", 1, 1), class("", 1, 1)}, api.ErrTwice}, {[]api.Class{class("a", 1, 1), class("", 1, 1), class("a", 1, 1)}, api.ErrName},
	} {
		if got := Check(c.l); got != c.want {
			t.Errorf("case %d: Check is %d, want %d", i, got, c.want)
		}
		for _, now := range []int{0, top, -1, top + 1} {
			want := c.want
			if want == api.OK && (now < 0 || now > top) {
				want = api.ErrArg
			}
			if r, e := New(c.l, now); e != want || (r == nil) != (e != api.OK) {
				t.Errorf("case %d: New at %d: error %d, want %d", i, now, e, want)
			}
		}
	}
}

func TestTakeAndLeft(t *testing.T) { // 46.2, 46.3
	r := made(t, 0, class("a", 1, 1))
	for i, c := range []struct {
		now  int
		want api.Errno
	}{{0, api.ErrRate}, {1, api.OK}, {1, api.ErrRate}, {0, api.ErrRate}, {9, api.OK}, {9, api.ErrRate}} {
		if got := r.Take("acme", "a", c.now); got != c.want {
			t.Errorf("take %d: error %d, want %d", i, got, c.want)
		}
	}
	r = made(t, 5, class("a", 3, 2), class("b", 9, 1))
	for i, c := range []struct {
		tenant, class string
		now, want     int
	}{{"x", "a", 5, 0}, {"x", "a", 6, 2}, {"x", "a", 7, 3}, {"y", "a", 7, 3}, {"x", "b", 7, 2}, {"x", "c", 7, 0}, {"x", "", 7, 0}, {"", "b", 7, 2}, {"x", "b", 0, 0}, {"x", "b", top, 9}, {"x", "b", top + 1, 0}, {"x", "b", math.MinInt, 0}} {
		if got := r.Left(c.tenant, c.class, c.now); got != c.want {
			t.Errorf("case %d: Left is %d, want %d", i, got, c.want)
		}
	}
	for _, now := range []int{5, 7, top} {
		if e := r.Take("x", "c", now); e != api.ErrNone {
			t.Errorf("a class that there is not: error %d", e)
		}
	}
	if e := r.Take("x", "a", 6); e != api.OK || r.Left("x", "a", 6) != 1 || r.Left("y", "a", 6) != 2 || r.Left("x", "b", 6) != 1 || r.Left("x", "a", 5) != 1 {
		t.Errorf("after Take: error %d, %d left", e, r.Left("x", "a", 6))
	}
}

func TestBegin(t *testing.T) { // 46.3
	r := made(t, 0, class("a", 5, 1))
	r.Take("x", "a", 4)
	for _, now := range []int{-1, top + 1, math.MinInt} {
		r.Begin(now)
		if r.Left("x", "a", 4) != 3 || r.Left("y", "a", 4) != 4 {
			t.Errorf("Begin at %d does something", now)
		}
	}
	r.Begin(4)
	if r.Left("x", "a", 4) != 0 || r.Left("y", "a", 4) != 0 || r.Left("x", "a", 6) != 2 || r.Take("x", "a", 4) != api.ErrRate {
		t.Error("the buckets are not empty after Begin")
	}
	r.Begin(2)
	if r.Left("x", "a", 4) != 2 {
		t.Error("the limiter does not begin at an earlier time")
	}
	r.Begin(top)
	if r.Take("x", "a", top) != api.ErrRate {
		t.Error("the last time is refused")
	}
}

func TestLimitersThatNewDidNotMake(t *testing.T) { // 46.2, 46.3
	for _, r := range []*Rates{nil, {}} {
		r.Begin(0)
		if r.Take("x", "a", 1) != api.ErrNil || r.Left("x", "a", 1) != 0 {
			t.Errorf("%v does something", r)
		}
	}
}

func TestClassesAreNotShared(t *testing.T) {
	l := []api.Class{class("a", 5, 1)}
	r := made(t, 0, l...)
	l[0].Cap = 1
	if r.Left("x", "a", 9) != 5 {
		t.Error("the limiter shares memory")
	}
}

func TestProperties(t *testing.T) { // 46.4
	r := rand.New(rand.NewSource(46))
	for range 300 {
		a, b := class("a", r.Intn(5), r.Intn(3)), class("b", r.Intn(5), r.Intn(3))
		busy, calm := made(t, 0, a, b), made(t, 0, a, b)
		now, first, taken := 0, 0, 0
		for range 60 {
			now += r.Intn(3)
			switch r.Intn(8) {
			case 0:
				busy.Begin(now)
				calm.Begin(now)
			case 1:
				first, taken = now, 0
			}
			// Only the busy limiter serves others too.
			busy.Take([]string{"x", "y", "z"}[r.Intn(3)], "b", now)
			busy.Take([]string{"y", "z"}[r.Intn(2)], "a", now)
			e := busy.Take("x", "a", now)
			if f := calm.Take("x", "a", now); e != f || busy.Left("x", "a", now) != calm.Left("x", "a", now) {
				t.Fatalf("other buckets matter: errors %d and %d", e, f)
			}
			if e == api.OK {
				taken++
			}
			if taken > a.Cap+(now-first)*a.Fill {
				t.Fatalf("%d units within %d ticks of %v", taken, now-first, a)
			}
		}
	}
}
