package frame

import (
	"math"
	"math/rand"
	"strings"
	"testing"

	"porter/api"
)

// block returns a block by its parts.
func block(mark, kind, size, text, tail string) string {
	return mark + kind + size + text + strings.Repeat("\x00", 110-len(text)) + tail
}

func TestPut(t *testing.T) { // 42.1
	long := strings.Repeat("x", 110)
	const one, big, most = "\x01\x00\x00\x00\x00\x00\x00\x00", "\x02\x01\x00\x00\x00\x00\x00\x40", "\xff\xff\xff\xff\xff\xff\xff\x7f"
	for _, c := range []struct {
		f    Frame
		want string
	}{
		{Frame{Mark: 1}, block(one, "\x00", "\x00", "", one)}, {Frame{1<<62 + 258, 255, "abc"}, block(big, "\xff", "\x03", "abc", big)}, {Frame{math.MaxInt, 7, long}, block(most, "\x07", "\x6e", long, most)},
	} {
		if got, e := Put(c.f); got != c.want || e != api.OK {
			t.Errorf("Put(%v) = %q, error %d", c.f, got, e)
		}
		if got, ok := Get(c.want); got != c.f || !ok {
			t.Errorf("Get = %v, %v, want %v", got, ok, c.f)
		}
		if mark, ok := Tail(c.want); mark != c.f.Mark || !ok {
			t.Errorf("Tail = %d, %v", mark, ok)
		}
	}
	for _, c := range []struct {
		f    Frame
		want api.Errno
	}{
		{Frame{}, api.ErrArg}, {Frame{-1, 0, ""}, api.ErrArg}, {Frame{math.MinInt, 0, long + "x"}, api.ErrArg}, {Frame{1, -1, ""}, api.ErrArg}, {Frame{1, 256, long + "x"}, api.ErrArg}, {Frame{1, 0, long + "x"}, api.ErrLimit},
	} {
		if got, e := Put(c.f); got != "" || e != c.want {
			t.Errorf("Put of mark %d and kind %d: error %d, want %d", c.f.Mark, c.f.Kind, e, c.want)
		}
	}
}

func TestGetRefuses(t *testing.T) { // 42.2
	good, _ := Put(Frame{300, 2, "abc"})
	bad := []string{"", good[1:], good + "\x00", strings.Repeat("\x00", 128), strings.Repeat("\xff", 128)}
	const negative = "\x01\x00\x00\x00\x00\x00\x00\x80"
	bad = append(bad, block(negative, "\x00", "\x00", "", negative), block(good[:8], "\x00", "\x6f", strings.Repeat("x", 110), good[:8]), block(good[:8], "\x00", "\x02", "abc", good[:8]), block(good[:8], "\x00", "\xff", "", good[:8]))
	for i := range 128 {
		if i == 8 || i >= 10 && i < 13 {
			continue // the kind and the text can be others
		}
		changed := []byte(good)
		changed[i] ^= 4
		if i == 9 {
			changed[i] = 2
		}
		bad = append(bad, string(changed))
	}
	for _, s := range bad {
		if f, ok := Get(s); f != (Frame{}) || ok {
			t.Errorf("Get(%q) = %v", s, f)
		}
	}
}

func TestTail(t *testing.T) { // 42.2
	rest := strings.Repeat("x", 120)
	for _, c := range []struct {
		s    string
		want int
		ok   bool
	}{
		{rest + "\x01\x02\x00\x00\x00\x00\x00\x00", 513, true}, {rest + "\x00\x00\x00\x00\x00\x00\x00\x00", 0, true}, {rest + "\xff\xff\xff\xff\xff\xff\xff\x7f", math.MaxInt, true}, {rest + "\x00\x00\x00\x00\x00\x00\x00\x80", 0, false}, {rest + "\xff\xff\xff\xff\xff\xff\xff\xff", 0, false}, {rest, 0, false}, {"", 0, false}, {rest + rest, 0, false}, {rest + "\x00\x00\x00\x00\x00\x00\x00\x00\x00", 0, false},
	} {
		if got, ok := Tail(c.s); got != c.want || ok != c.ok {
			t.Errorf("Tail(%q) = %d, %v", c.s, got, ok)
		}
	}
}

func randomFrame(r *rand.Rand) Frame {
	text := make([]byte, r.Intn(111))
	r.Read(text)
	return Frame{Mark: 1 + r.Intn(1<<r.Intn(62)), Kind: r.Intn(3), Text: string(text)}
}

func TestInterruptedWrites(t *testing.T) { // 42.3, 42.4
	r := rand.New(rand.NewSource(42))
	for range 300 {
		f := randomFrame(r)
		fresh, _ := Put(f)
		if got, ok := Get(fresh); got != f || !ok {
			t.Fatalf("Get(Put(%v)) = %v", f, got)
		}
		before := make([]byte, 128)
		r.Read(before)
		olds := []string{string(before), strings.Repeat("\x00", 128), fresh[:100] + string(before[:28])}
		for _, mark := range []int{f.Mark - 1, f.Mark, f.Mark + 1, f.Mark / 2, f.Mark ^ 256} {
			if old, e := Put(Frame{mark, f.Kind, f.Text}); e == api.OK {
				olds = append(olds, old)
			}
		}
		for _, old := range olds {
			tail, has := Tail(old)
			for n := range 129 {
				now := fresh[:n] + old[n:]
				got, ok := Get(now)
				if (!has || tail != f.Mark) && now != fresh && ok && got.Mark == f.Mark {
					t.Fatalf("after %d bytes over %q there is another frame of mark %d", n, old, f.Mark)
				}
				if ok && (got.Mark == f.Mark || n == 128) && has && tail != f.Mark && got != f {
					t.Fatalf("after %d bytes over %q: %v", n, old, got)
				}
				later, still := Tail(now)
				if has && tail <= f.Mark && (!still || later > f.Mark) {
					t.Fatalf("after %d bytes the tail %d has become %d", n, tail, later)
				}
				if has && tail < f.Mark && later == f.Mark && now != fresh {
					t.Fatalf("after %d bytes the tail is %d", n, later)
				}
			}
		}
	}
}
