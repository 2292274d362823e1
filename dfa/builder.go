package dfa

import (
	"math/bits"

	"porter/api"
	"porter/blocks"
	"porter/charset"
)

const wordSize = 64

// places is a set of positions, a bit each.
type places [api.MaxSpots / wordSize]uint64

func placesOf(l []int) places {
	var s places
	for _, i := range l {
		s[i/wordSize] |= 1 << (i % wordSize)
	}
	return s
}

func (s places) or(o places) places {
	for i := range s {
		s[i] |= o[i]
	}
	return s
}

func (s places) and(o places) places {
	for i := range s {
		s[i] &= o[i]
	}
	return s
}

// builder performs the subset construction.
type builder struct {
	first, last places
	next        []places // of each position
	readers     []places // of each class: the positions that read its bytes
	numbers     map[places]int
	waiting     []places // states whose successors are not known yet
	d           api.Dfa
}

func newBuilder(p api.Spots) *builder {
	b := &builder{first: placesOf(p.First), last: placesOf(p.Last), numbers: map[places]int{}}
	for _, l := range p.Next {
		b.next = append(b.next, placesOf(l))
	}
	block := blocks.Of(p.Sets)
	for class := range blocks.Count(block) {
		var readers []int
		for i, set := range p.Sets {
			if charset.Has(set, byte(blocks.First(block, class))) {
				readers = append(readers, i)
			}
		}
		b.readers = append(b.readers, placesOf(readers))
	}
	b.d = api.Dfa{Block: block, Final: []bool{p.None}}
	return b
}

// build finds all states, and reports whether there are not too many.
func (b *builder) build() bool {
	if !b.row(b.first) {
		return false
	}
	for len(b.waiting) > 0 {
		states := make([]places, len(b.waiting))
		copy(states, b.waiting)
		b.waiting = b.waiting[:0]
		for _, s := range states {
			if !b.row(b.after(s)) {
				return false
			}
		}
	}
	return true
}

// after returns the next positions of all positions in s.
func (b *builder) after(s places) places {
	var all places
	for i, word := range s {
		for ; word != 0; word &= word - 1 {
			all = all.or(b.next[i*wordSize+bits.TrailingZeros64(word)])
		}
	}
	return all
}

// row adds the successors of the state that is followed by the given positions.
func (b *builder) row(after places) bool {
	row := make([]int, len(b.readers))
	for class, readers := range b.readers {
		number, ok := b.number(after.and(readers))
		if !ok {
			return false
		}
		row[class] = number
	}
	b.d.Next = append(b.d.Next, row)
	return true
}

// number returns the number of a set of positions as a state; false if it would be one state too many.
func (b *builder) number(s places) (int, bool) {
	number, seen := b.numbers[s]
	if seen {
		return number, true
	}
	number = len(b.d.Final)
	if number == api.MaxStates {
		return 0, false
	}
	b.numbers[s] = number
	b.waiting = append(b.waiting, s)
	b.d.Final = append(b.d.Final, s.and(b.last) != places{})
	return number, true
}
