package lang

import (
	"porter/api"
)

// edge leads from a state to another one, by some bytes.
type edge struct {
	to    int
	bytes int // how many
	first int // the smallest one
}

// graph is a valid automaton, without what leads to no accepting state.
type graph struct {
	d     api.Dfa
	edges [][]edge // of each state, by rising smallest bytes
}

func newGraph(d api.Dfa) graph {
	classes := make([]edge, len(d.Next[0]))
	for b := 255; b >= 0; b-- {
		classes[d.Block[b]].bytes++
		classes[d.Block[b]].first = b
	}
	alive := living(d)
	g := graph{d: d, edges: make([][]edge, len(d.Next))}
	for state, row := range d.Next {
		known := map[int]int{} // where the edge to a state is
		for class, to := range row {
			if !alive[to] {
				continue
			}
			at, seen := known[to]
			if !seen {
				known[to] = len(g.edges[state])
				g.edges[state] = append(g.edges[state], edge{to: to, bytes: classes[class].bytes, first: classes[class].first})
				continue
			}
			g.edges[state][at].bytes += classes[class].bytes
		}
	}
	return g
}

// living tells from which states an accepting one is reached.
func living(d api.Dfa) []bool {
	back := make([][]int, len(d.Next))
	for state, row := range d.Next {
		for _, to := range row {
			back[to] = append(back[to], state)
		}
	}
	alive := make([]bool, len(d.Next))
	var l []int
	for state, final := range d.Final {
		if final {
			alive[state] = true
			l = append(l, state)
		}
	}
	for i := 0; i < len(l); i++ {
		for _, from := range back[l[i]] {
			if !alive[from] {
				alive[from] = true
				l = append(l, from)
			}
		}
	}
	return alive
}

// ways returns the number of bytes by which the language can go on from a state.
func (g graph) ways(state int) int {
	n := 0
	for _, e := range g.edges[state] {
		n += e.bytes
	}
	return n
}

// place is a state and the smallest string that leads to it.
type place struct {
	state int
	text  string
}

// first returns the smallest string of the language, if there is one.
func first(g graph) (string, bool) {
	// Every state is sent at most once, so that nothing ever blocks.
	waiting := make(chan place, len(g.d.Next))
	seen := make([]bool, len(g.d.Next))
	seen[g.d.Start] = true
	waiting <- place{state: g.d.Start}
	open := 1 // places that were sent and are not done with
	for p := range waiting {
		if g.d.Final[p.state] {
			return p.text, true
		}
		for _, e := range g.edges[p.state] {
			if seen[e.to] {
				continue
			}
			seen[e.to] = true
			waiting <- place{state: e.to, text: p.text + string([]byte{byte(e.first)})}
			open++
		}
		open--
		if open == 0 {
			close(waiting)
		}
	}
	return "", false
}

// cyclic reports whether states on the way from the start to an accepting state can come again.
func (g graph) cyclic() bool {
	const (
		open = 1 // on the way that is being followed
		done = 2
	)
	marks := make([]int, len(g.edges))
	var follow func(state int) bool
	follow = func(state int) bool {
		marks[state] = open
		for _, e := range g.edges[state] {
			if marks[e.to] == open || marks[e.to] != done && follow(e.to) {
				return true
			}
		}
		marks[state] = done
		return false
	}
	return follow(g.d.Start)
}
