// Package sat is layer 1: sums that go no further than the ends. See shared/doc/01-sat.md.
package sat

const (
	most  = 1<<63 - 1
	least = -1 << 63
)

// Add returns a + b, or the nearest int.
func Add(a, b int) int {
	if b > 0 && a > most-b {
		return most
	}
	if b < 0 && a < least-b {
		return least
	}
	return a + b
}

// Sub returns a - b, or the nearest int.
func Sub(a, b int) int {
	// Not Add(a, -b): the least int has no opposite.
	if b < 0 && a > most+b {
		return most
	}
	if b > 0 && a < least+b {
		return least
	}
	return a - b
}

// Mul returns a * b, or the nearest int.
func Mul(a, b int) int {
	if a == 0 || b == 0 {
		return 0
	}
	if overflows(a, b) {
		return end((a < 0) != (b < 0))
	}
	return a * b
}

// overflows reports whether the product of two numbers other than 0 is no int.
func overflows(a, b int) bool {
	// The division below wraps round for these two pairs and would not show it.
	if a == least && b == -1 || b == least && a == -1 {
		return true
	}
	return a*b/b != a
}

func end(negative bool) int {
	if negative {
		return least
	}
	return most
}

// Div returns a / b rounded down, or 0 if b is less than 1.
func Div(a, b int) int {
	if b < 1 {
		return 0
	}
	q := a / b
	if a%b < 0 {
		return q - 1
	}
	return q
}

// Clamp returns the number from low to high that is nearest to n; low is asked first.
func Clamp(n, low, high int) int {
	if n < low {
		return low
	}
	if n > high {
		return high
	}
	return n
}

// Sum adds the numbers in order.
func Sum(l ...int) int {
	total := 0
	for _, n := range l {
		total = Add(total, n)
	}
	return total
}
