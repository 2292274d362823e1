package blocks

import (
	"math/rand"
	"slices"
	"testing"

	"porter/api"
	"porter/charset"
)

// defined numbers the classes by the definition.
func defined(alike func(x, y int) bool) []int {
	b := make([]int, 256)
	next := 0
	for x := range b {
		b[x] = -1
		for y := range x {
			if alike(x, y) {
				b[x] = b[y]
			}
		}
		if b[x] < 0 {
			b[x] = next
			next++
		}
	}
	return b
}

func randomSets(r *rand.Rand, n int) []api.Set {
	var sets []api.Set
	for range n {
		sets = append(sets, api.Set{r.Uint64() & r.Uint64(), r.Uint64(), r.Uint64() | r.Uint64(), 1 << r.Intn(64)})
	}
	return sets
}

func TestOf(t *testing.T) { // 17.1
	if b := Of([]api.Set{charset.Texts("ab")}); Count(b) != 2 || b['a'] != 1 || b['b'] != 1 || b['c'] != 0 {
		t.Errorf("the example's partition is %v", b)
	}
	r := rand.New(rand.NewSource(17))
	lists := [][]api.Set{nil, {{}}, {charset.Of(0, 255)}, {charset.Of(0, 0)}, {charset.Of(255, 255), charset.Texts("a")}, {charset.Of(0, 99), charset.Of(50, 150), charset.Of(50, 150)}}
	for _, n := range []int{1, 2, 3, 5, 8, 300} {
		lists = append(lists, randomSets(r, n))
	}
	for i, sets := range lists {
		want := defined(func(x, y int) bool {
			return !slices.ContainsFunc(sets, func(s api.Set) bool { return charset.Has(s, byte(x)) != charset.Has(s, byte(y)) })
		})
		if got := Of(sets); !slices.Equal(got, want) || !Right(got) {
			t.Errorf("list %d: %v, want %v", i, got, want)
		}
	}
}

// TestOfEverySet: each of many sets tells, wherever it stands.
func TestOfEverySet(t *testing.T) { // 17.1
	for at := range 600 {
		sets := make([]api.Set, 600)
		sets[at] = charset.Texts("x")
		if b := Of(sets); Count(b) != 2 || First(b, 1) != 'x' {
			t.Fatalf("set %d does not tell", at)
		}
	}
	var all []api.Set
	for b := range 256 {
		all = append(all, charset.Of(byte(b), byte(b)))
	}
	if b := Of(all); Count(b) != 256 || First(b, 255) != 255 {
		t.Error("all bytes apart are not 256 classes")
	}
}

// with returns a partition with one class, but for the given numbers.
func with(classes map[int]int) []int {
	b := make([]int, 256)
	for i, class := range classes {
		b[i] = class
	}
	return b
}

func TestRightCountFirst(t *testing.T) { // 17.2
	for i, c := range []struct {
		b     []int
		count int
	}{
		{with(nil), 1}, {with(map[int]int{9: 1}), 2}, {with(map[int]int{9: 1, 10: 2, 11: 1, 255: 3}), 4}, {with(map[int]int{255: 1}), 2},
		{nil, 0}, {make([]int, 255), 0}, {make([]int, 257), 0}, {with(map[int]int{0: 1}), 0}, {with(map[int]int{0: -1}), 0}, {with(map[int]int{9: 2}), 0}, {with(map[int]int{9: 2, 10: 1}), 0}, {with(map[int]int{9: 1, 10: 3}), 0}, {with(map[int]int{9: -1}), 0}, {with(map[int]int{1: 1 << 62}), 0},
	} {
		if Right(c.b) != (c.count > 0) || Count(c.b) != c.count {
			t.Errorf("partition %d: %v, %d classes", i, Right(c.b), Count(c.b))
		}
		if c.count == 0 && (First(c.b, 0) != -1 || First(c.b, 1) != -1) {
			t.Errorf("the invalid partition %d has a first byte", i)
		}
	}
	b := with(map[int]int{9: 1, 10: 2, 11: 1, 255: 3})
	for k, want := range map[int]int{0: 0, 1: 9, 2: 10, 3: 255, 4: -1, -1: -1, 1 << 62: -1} {
		if got := First(b, k); got != want {
			t.Errorf("First of class %d is %d", k, got)
		}
	}
}

func TestMeet(t *testing.T) { // 17.3, 17.4
	r := rand.New(rand.NewSource(173))
	for range 100 {
		x, y := randomSets(r, r.Intn(4)), randomSets(r, r.Intn(4))
		a, b := Of(x), Of(y)
		want := defined(func(x, y int) bool { return a[x] == a[y] && b[x] == b[y] })
		if got := Meet(a, b); !slices.Equal(got, want) {
			t.Fatalf("Meet(%v, %v) = %v", a, b, got)
		}
		if got := Of(append(x, y...)); !slices.Equal(got, want) {
			t.Fatalf("the partition of both lists is %v", got)
		}
	}
	good := make([]int, 256)
	for _, bad := range [][]int{nil, good[1:], with(map[int]int{3: 2})} {
		if len(Meet(good, bad)) != 0 || len(Meet(bad, good)) != 0 || len(Meet(bad, bad)) != 0 {
			t.Error("Meet of an invalid partition is not empty")
		}
	}
}
