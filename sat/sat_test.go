package sat

import (
	"math"
	"math/big"
	"testing"
)

// edges are the numbers at which the arithmetic of ints changes its behaviour.
var edges = []int{math.MinInt, math.MinInt + 1, math.MinInt / 2, -1 << 32, -3, -2, -1, 0, 1, 2, 3, 1 << 31, 1 << 32, math.MaxInt / 2, math.MaxInt - 1, math.MaxInt}

// nearest is what the mathematical result saturates to.
func nearest(n *big.Int) int {
	if n.IsInt64() {
		return int(n.Int64())
	}
	if n.Sign() < 0 {
		return math.MinInt
	}
	return math.MaxInt
}

func TestAddSubMulAgainstBigNumbers(t *testing.T) { // 1.1
	for _, a := range edges {
		for _, b := range edges {
			x, y := big.NewInt(int64(a)), big.NewInt(int64(b))
			if got, want := Add(a, b), nearest(new(big.Int).Add(x, y)); got != want {
				t.Errorf("Add(%d, %d) = %d, want %d", a, b, got, want)
			}
			if got, want := Sub(a, b), nearest(new(big.Int).Sub(x, y)); got != want {
				t.Errorf("Sub(%d, %d) = %d, want %d", a, b, got, want)
			}
			if got, want := Mul(a, b), nearest(new(big.Int).Mul(x, y)); got != want {
				t.Errorf("Mul(%d, %d) = %d, want %d", a, b, got, want)
			}
		}
	}
}

func TestDiv(t *testing.T) { // 1.2
	for _, a := range edges {
		for _, b := range edges {
			want := 0
			if b >= 1 {
				// For a positive divisor the Euclidean quotient is the one rounded down.
				want = nearest(new(big.Int).Div(big.NewInt(int64(a)), big.NewInt(int64(b))))
			}
			if got := Div(a, b); got != want {
				t.Errorf("Div(%d, %d) = %d, want %d", a, b, got, want)
			}
		}
	}
	if got := Div(-7, 2); got != -4 {
		t.Errorf("Div(-7, 2) = %d", got)
	}
}

func TestClamp(t *testing.T) { // 1.2
	for _, c := range []struct{ n, low, high, want int }{
		{9, 1, 5, 5}, {0, 1, 5, 1}, {3, 1, 5, 3}, {1, 1, 5, 1}, {5, 1, 5, 5},
		{3, 5, 1, 5}, {7, 5, 1, 1}, {5, 5, 1, 1}, {math.MinInt, math.MinInt, 0, math.MinInt},
	} {
		if got := Clamp(c.n, c.low, c.high); got != c.want {
			t.Errorf("Clamp(%d, %d, %d) = %d, want %d", c.n, c.low, c.high, got, c.want)
		}
	}
}

func TestSum(t *testing.T) { // 1.2
	for _, c := range []struct {
		l    []int
		want int
	}{
		{nil, 0}, {[]int{7}, 7}, {[]int{1, 2, 3}, 6},
		{[]int{math.MaxInt, 5, -5}, math.MaxInt - 5},
		{[]int{-5, 5, math.MaxInt}, math.MaxInt},
		{[]int{math.MinInt, -1, 1}, math.MinInt + 1},
	} {
		if got := Sum(c.l...); got != c.want {
			t.Errorf("Sum(%v) = %d, want %d", c.l, got, c.want)
		}
	}
}

func TestAddIsMonotone(t *testing.T) { // 1.3
	for _, a := range edges {
		for _, b := range edges {
			for _, c := range edges {
				if a >= b && Add(a, c) < Add(b, c) {
					t.Errorf("Add(%d, %d) < Add(%d, %d)", a, c, b, c)
				}
			}
		}
	}
}

func TestSubUndoesAdd(t *testing.T) { // 1.3
	for _, a := range edges {
		for _, b := range edges {
			exact := new(big.Int).Add(big.NewInt(int64(a)), big.NewInt(int64(b)))
			if exact.IsInt64() && Sub(Add(a, b), a) != b {
				t.Errorf("Sub(Add(%d, %d), %d) = %d", a, b, a, Sub(Add(a, b), a))
			}
		}
	}
}
