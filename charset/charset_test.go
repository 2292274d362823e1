package charset

import (
	"math/rand"
	"testing"

	"porter/api"
)

// sets are the empty and the full set, sets at the ends of words, and sets without a pattern.
func sets() []api.Set {
	full := api.Set{1<<64 - 1, 1<<64 - 1, 1<<64 - 1, 1<<64 - 1}
	l := []api.Set{{}, full, {1}, {0, 1}, {1 << 63}, {0, 0, 0, 1 << 63}, {0, 1 << 33, 1 << 44}}
	r := rand.New(rand.NewSource(12))
	for range 20 {
		l = append(l, api.Set{r.Uint64(), r.Uint64(), r.Uint64(), r.Uint64()})
	}
	return l
}

// bit is the element test as the definition says it.
func bit(s api.Set, b int) bool {
	return s[b/64]&(1<<(b%64)) != 0
}

func TestOf(t *testing.T) { // 12.1
	for _, c := range [][2]int{{0, 0}, {0, 255}, {255, 255}, {63, 64}, {'a', 'c'}, {127, 128}, {1, 254}, {2, 1}, {255, 0}} {
		s := Of(byte(c[0]), byte(c[1]))
		for b := range 256 {
			if want := c[0] <= b && b <= c[1]; bit(s, b) != want || Has(s, byte(b)) != want {
				t.Errorf("Of(%d, %d) and %d: %v", c[0], c[1], b, Has(s, byte(b)))
			}
		}
	}
}

func TestTexts(t *testing.T) { // 12.1
	if got := Texts("\x00\xffba\xff"); got != (api.Set{1, 1<<('a'-64) | 1<<('b'-64), 0, 1 << 63}) {
		t.Errorf("Texts = %x", got)
	}
	if Texts("") != (api.Set{}) || Texts("cab") != Of('a', 'c') {
		t.Error("wrong set of bytes")
	}
}

func TestOperations(t *testing.T) { // 12.1, 12.2
	for _, s := range sets() {
		for _, u := range sets() {
			or, and, less, not := Or(s, u), And(s, u), Less(s, u), Not(s)
			for b := range 256 {
				in, also := bit(s, b), bit(u, b)
				if Has(s, byte(b)) != in || bit(or, b) != (in || also) || bit(and, b) != (in && also) || bit(less, b) != (in && !also) || bit(not, b) == in {
					t.Fatalf("wrong for byte %d of %x and %x", b, s, u)
				}
			}
		}
	}
}

func TestCountFirstText(t *testing.T) { // 12.3
	for _, s := range sets() {
		count, first, text := 0, -1, ""
		for b := range 256 {
			if !bit(s, b) {
				continue
			}
			if first < 0 {
				first = b
			}
			count++
			text += string([]byte{byte(b)})
		}
		if Count(s) != count || First(s) != first || Text(s) != text {
			t.Errorf("%x: Count %d, First %d, Text %q", s, Count(s), First(s), Text(s))
		}
	}
	if Text(Of('a', 'c')) != "abc" || Count(Not(Of('a', 'c'))) != 253 {
		t.Error("the examples are wrong")
	}
}

func TestProperties(t *testing.T) { // 12.4
	for _, s := range sets() {
		if Not(Not(s)) != s || Texts(Text(s)) != s {
			t.Errorf("%x is not restored", s)
		}
		for _, u := range sets() {
			if Not(Or(s, u)) != And(Not(s), Not(u)) || Not(And(s, u)) != Or(Not(s), Not(u)) {
				t.Errorf("De Morgan fails for %x and %x", s, u)
			}
			if Or(And(s, u), Less(s, u)) != s || And(And(s, u), Less(s, u)) != (api.Set{}) {
				t.Errorf("no partition of %x by %x", s, u)
			}
		}
	}
}
