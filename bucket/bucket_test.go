package bucket

import (
	"math"
	"math/big"
	"math/rand"
	"testing"

	"porter/api"
)

const top = 1 << 40

func TestRight(t *testing.T) { // 45.1
	for _, b := range []Bucket{{}, {5, 2, 3, 7}, {5, 0, 5, 0}, {top, top, top, top}, {0, top, 0, top}} {
		if !Right(b) {
			t.Errorf("%v is refused", b)
		}
	}
	for _, b := range invalid() {
		if Right(b) {
			t.Errorf("%v is accepted", b)
		}
	}
}

func invalid() []Bucket {
	return []Bucket{{-1, 0, 0, 0}, {top + 1, 0, 0, 0}, {5, -1, 3, 0}, {5, top + 1, 3, 0}, {5, 1, -1, 0}, {5, 1, 6, 0}, {5, 1, 3, -1}, {5, 1, 3, top + 1}, {math.MinInt, 0, math.MinInt, 0}, {math.MaxInt, math.MaxInt, math.MaxInt, 0}}
}

func TestNew(t *testing.T) { // 45.1
	if got := New(api.Class{Name: "x", Cap: 5, Fill: 2}, 7); got != (Bucket{5, 2, 0, 7}) {
		t.Errorf("New is %v", got)
	}
	if got := New(api.Class{Cap: -5, Fill: math.MaxInt}, -7); got != (Bucket{-5, math.MaxInt, 0, -7}) {
		t.Errorf("an invalid new bucket is %v", got)
	}
}

func TestAtAndTake(t *testing.T) { // 45.2
	for _, c := range []struct {
		b       Bucket
		now     int
		at      Bucket
		taken   Bucket
		success bool
	}{
		{Bucket{3, 2, 0, 0}, 0, Bucket{3, 2, 0, 0}, Bucket{3, 2, 0, 0}, false}, {Bucket{3, 2, 0, 0}, 1, Bucket{3, 2, 2, 1}, Bucket{3, 2, 1, 1}, true}, {Bucket{3, 2, 0, 0}, 9, Bucket{3, 2, 3, 9}, Bucket{3, 2, 2, 9}, true},
		{Bucket{3, 2, 1, 5}, 5, Bucket{3, 2, 1, 5}, Bucket{3, 2, 0, 5}, true}, {Bucket{3, 2, 1, 5}, 4, Bucket{3, 2, 1, 5}, Bucket{3, 2, 0, 5}, true}, {Bucket{3, 2, 0, 5}, -9, Bucket{3, 2, 0, 5}, Bucket{3, 2, 0, 5}, false}, {Bucket{3, 0, 0, 5}, 50, Bucket{3, 0, 0, 50}, Bucket{3, 0, 0, 50}, false}, {Bucket{0, 2, 0, 0}, 9, Bucket{0, 2, 0, 9}, Bucket{0, 2, 0, 9}, false},
		{Bucket{3, 1, 0, 0}, top, Bucket{3, 1, 3, top}, Bucket{3, 1, 2, top}, true}, {Bucket{3, 1, 0, 0}, top + 1, Bucket{3, 1, 0, 0}, Bucket{3, 1, 0, 0}, false}, {Bucket{3, 1, 2, 0}, math.MaxInt, Bucket{3, 1, 2, 0}, Bucket{3, 1, 1, 0}, true}, {Bucket{top, top, 1, 0}, top, Bucket{top, top, top, top}, Bucket{top, top, top - 1, top}, true},
	} {
		if got := At(c.b, c.now); got != c.at {
			t.Errorf("At(%v, %d) is %v, want %v", c.b, c.now, got, c.at)
		}
		if got, ok := Take(c.b, c.now); got != c.taken || ok != c.success {
			t.Errorf("Take(%v, %d) is %v, %v", c.b, c.now, got, ok)
		}
	}
	for _, b := range invalid() {
		for _, now := range []int{0, 9, top, math.MaxInt, math.MinInt} {
			if got, ok := Take(b, now); At(b, now) != b || got != b || ok {
				t.Errorf("the invalid bucket %v changes", b)
			}
		}
	}
}

func TestProperties(t *testing.T) { // 45.3
	r := rand.New(rand.NewSource(45))
	for range 500 {
		b := Bucket{Cap: r.Intn(6), Fill: r.Intn(3)}
		b.Have = r.Intn(b.Cap + 1)
		first, now, taken := 0, 0, 0
		for range 60 {
			if r.Intn(10) == 0 {
				first, taken = now, 0
			}
			switch r.Intn(4) {
			case 0:
				now += r.Intn(4)
			case 1:
				At(b, now-r.Intn(9))
			}
			var ok bool
			b, ok = Take(b, now)
			if ok {
				taken++
			}
			if !Right(b) {
				t.Fatalf("the bucket has become %v", b)
			}
			if taken > b.Cap+(now-first)*b.Fill {
				t.Fatalf("%d units within %d ticks of %v", taken, now-first, b)
			}
		}
	}
}

// TestLevels: levels are those of exact arithmetic.
func TestLevels(t *testing.T) { // 45.2
	r := rand.New(rand.NewSource(452))
	for range 2000 {
		b := Bucket{Cap: r.Intn(1 << r.Intn(41)), Fill: r.Intn(1 << r.Intn(41)), At: r.Intn(1 << r.Intn(41))}
		b.Have = r.Intn(b.Cap + 1)
		now := b.At + 1 + r.Intn(top-b.At+1)
		if now > top {
			continue
		}
		level := new(big.Int).Mul(big.NewInt(int64(b.Fill)), big.NewInt(int64(now-b.At)))
		level.Add(level, big.NewInt(int64(b.Have)))
		want := b.Cap
		if level.Cmp(big.NewInt(int64(b.Cap))) < 0 {
			want = int(level.Int64())
		}
		if got := At(b, now); got != (Bucket{b.Cap, b.Fill, want, now}) {
			t.Fatalf("At(%v, %d) is %v", b, now, got)
		}
	}
}
