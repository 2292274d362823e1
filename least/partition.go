package least

import (
	"slices"

	"porter/api"
)

// partition divides states into groups, which are split until equivalent states alone are together (Hopcroft).
type partition struct {
	group  []int // of each state
	order  []int // the states, group by group
	place  []int // of each state in order
	from   []int // where each group begins in order
	to     []int // where each group ends
	marked []int // how many states at the beginning of each group are marked
}

// newPartition returns the partition into states that accept and states that do not.
func newPartition(d api.Dfa) *partition {
	p := &partition{group: make([]int, len(d.Final)), place: make([]int, len(d.Final))}
	groups := newNumbering[bool]()
	var members [][]int
	for state, final := range d.Final {
		group, fresh := groups.of(final)
		if fresh {
			members = append(members, nil)
		}
		p.group[state] = group
		members[group] = append(members[group], state)
	}
	for _, states := range members {
		p.add(len(p.order), len(p.order)+len(states))
		p.order = append(p.order, states...)
	}
	for i, state := range p.order {
		p.place[state] = i
	}
	return p
}

func (p *partition) add(from, to int) {
	p.from = append(p.from, from)
	p.to = append(p.to, to)
	p.marked = append(p.marked, 0)
}

func (p *partition) size(group int) int {
	return p.to[group] - p.from[group]
}

// refine splits groups until all states of a group lead to the same groups.
func (p *partition) refine(d api.Dfa) {
	back := newSources(d)
	var work []int // groups by which others are still to be split
	waits := make([]bool, len(d.Final))
	push := func(group int) {
		work = append(work, group)
		waits[group] = true
	}
	for group := range p.from {
		push(group)
	}
	for len(work) > 0 {
		by := work[len(work)-1]
		work = work[:len(work)-1]
		waits[by] = false
		// A copy, since the group itself may be split in between.
		states := slices.Clone(p.order[p.from[by]:p.to[by]])
		for class := range d.Next[0] {
			for _, group := range p.mark(back, states, class) {
				rest, ok := p.split(group)
				if !ok {
					continue
				}
				// Of two halves one is enough, unless the whole was to be used anyway.
				if !waits[group] && p.size(group) < p.size(rest) {
					rest = group
				}
				push(rest)
			}
		}
	}
}

// mark marks all states that lead to one of the given states, and returns their groups.
func (p *partition) mark(back sources, states []int, class int) []int {
	var touched []int
	for _, state := range states {
		for _, source := range back.of(class, state) {
			group := p.group[source]
			if p.marked[group] == 0 {
				touched = append(touched, group)
			}
			// No state is marked twice: it leads to one state alone by this class.
			p.swap(p.place[source], p.from[group]+p.marked[group])
			p.marked[group]++
		}
	}
	return touched
}

func (p *partition) swap(i, k int) {
	p.order[i], p.order[k] = p.order[k], p.order[i]
	p.place[p.order[i]], p.place[p.order[k]] = i, k
}

// split makes the marked states of a group a new one, unless all are marked.
func (p *partition) split(group int) (int, bool) {
	from, n := p.from[group], p.marked[group]
	p.marked[group] = 0
	if n == p.size(group) {
		return 0, false
	}
	fresh := len(p.from)
	p.add(from, from+n)
	p.from[group] = from + n
	for _, state := range p.order[from : from+n] {
		p.group[state] = fresh
	}
	return fresh, true
}

// sources tells which states lead to a state by a class.
type sources struct {
	states int
	from   []int // where the sources for a class and a state begin in list
	list   []int
}

func newSources(d api.Dfa) sources {
	states, classes := len(d.Next), len(d.Next[0])
	s := sources{states: states, from: make([]int, states*classes+1), list: make([]int, states*classes)}
	for _, row := range d.Next {
		for class, next := range row {
			s.from[class*states+next+1]++
		}
	}
	for i := range states * classes {
		s.from[i+1] += s.from[i]
	}
	free := slices.Clone(s.from)
	for state, row := range d.Next {
		for class, next := range row {
			at := class*states + next
			s.list[free[at]] = state
			free[at]++
		}
	}
	return s
}

func (s sources) of(class, state int) []int {
	at := class*s.states + state
	return s.list[s.from[at]:s.from[at+1]]
}
