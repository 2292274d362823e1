package match

import (
	"iter"
	"math/bits"
)

const wordSize = 64

// marks are indices of a text, a bit each, including the index after its last byte.
type marks []uint64

// markable returns marks, none of them set, for a text of n bytes.
func markable(n int) marks {
	return make(marks, n/wordSize+1)
}

func (m marks) clone() marks {
	c := make(marks, len(m))
	copy(c, m)
	return c
}

func (m marks) set(i int) {
	m[i/wordSize] |= 1 << (i % wordSize)
}

func (m marks) has(i int) bool {
	return m[i/wordSize]>>(i%wordSize)&1 == 1
}

func (m marks) empty() bool {
	for _, word := range m {
		if word != 0 {
			return false
		}
	}
	return true
}

// add sets the marks of o too.
func (m marks) add(o marks) {
	for i := range len(m) {
		m[i] |= o[i]
	}
}

// without returns the marks that o does not have.
func (m marks) without(o marks) marks {
	c := m.clone()
	for i := range len(c) {
		c[i] &^= o[i]
	}
	return c
}

// advance moves by one every mark that is set in mask too, and drops the others.
func (m marks) advance(mask marks) marks {
	c := m.clone()
	var carry uint64
	for i := range len(c) {
		word := c[i] & mask[i]
		c[i] = word<<1 | carry
		carry = word >> (wordSize - 1)
	}
	return c
}

// flood returns the marks that are reached by any number of advances.
func (m marks) flood(mask marks) marks {
	c := m.clone()
	for i := range len(c)*wordSize - 1 {
		if c.has(i) && mask.has(i) {
			c.set(i + 1)
		}
	}
	return c
}

// all enumerates the indices in ascending order.
func (m marks) all() iter.Seq[int] {
	return func(yield func(int) bool) {
		for i, word := range m {
			for ; word != 0; word &= word - 1 {
				if !yield(i*wordSize + bits.TrailingZeros64(word)) {
					return
				}
			}
		}
	}
}
