package spots

import (
	"cmp"

	"porter/api"
)

// builder collects the positions while a pattern is expanded from the left.
type builder struct {
	sets []api.Set
	next [][]int
}

// part is a subexpression that has been expanded.
type part struct {
	none        bool // nullable
	first, last []int
}

// merge returns the elements of two ascending lists without duplicates, in order, as a list of its own.
func merge[T cmp.Ordered](a, b []T) []T {
	l := make([]T, 0, len(a)+len(b))
	for len(a) > 0 && len(b) > 0 {
		order := cmp.Compare(a[0], b[0])
		if order <= 0 {
			l = append(l, a[0])
			a = a[1:]
		} else {
			l = append(l, b[0])
		}
		if order >= 0 {
			b = b[1:]
		}
	}
	l = append(l, a...)
	return append(l, b...)
}

// nothing is the part that matches the empty string alone.
func nothing() part {
	return part{none: true}
}

func (b *builder) expand(n api.Node) part {
	switch n.Kind {
	case api.One:
		at := len(b.sets)
		b.sets = append(b.sets, n.Set)
		b.next = append(b.next, nil)
		return part{first: []int{at}, last: []int{at}}
	case api.Cat:
		whole := nothing()
		for _, kid := range n.Kids {
			whole = b.then(whole, b.expand(kid))
		}
		return whole
	case api.Alt:
		whole := part{}
		for _, kid := range n.Kids {
			whole = either(whole, b.expand(kid))
		}
		return whole
	}
	return b.rep(n)
}

// link lets the first positions follow the last ones.
func (b *builder) link(last, first []int) {
	for _, i := range last {
		b.next[i] = merge(b.next[i], first)
	}
}

// then puts one part behind another one.
func (b *builder) then(x, y part) part {
	b.link(x.last, y.first)
	whole := part{none: x.none && y.none, first: x.first, last: y.last}
	if x.none {
		whole.first = merge(x.first, y.first)
	}
	if y.none {
		whole.last = merge(x.last, y.last)
	}
	return whole
}

func either(x, y part) part {
	return part{none: x.none || y.none, first: merge(x.first, y.first), last: merge(x.last, y.last)}
}

func (b *builder) rep(n api.Node) part {
	before := len(b.sets)
	parts := []part{b.expand(n.Kids[0])}
	if len(b.sets) == before {
		return nothing()
	}
	for len(parts) < copies(n) {
		parts = append(parts, b.expand(n.Kids[0]))
	}
	// The tail is built from its end, since a copy is omitted together with all after it.
	tail := nothing()
	for i := len(parts) - 1; i >= n.Min; i-- {
		tail = b.then(parts[i], tail)
		tail.none = true
	}
	if n.Max == -1 {
		b.link(tail.last, tail.first)
	}
	whole := nothing()
	for _, required := range parts[:n.Min] {
		whole = b.then(whole, required)
	}
	return b.then(whole, tail)
}
