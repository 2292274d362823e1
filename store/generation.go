package store

import (
	"porter/api"
	"porter/entry"
	"porter/plan"
	"porter/record"
	"porter/ring"
)

const (
	imageKind   = 1
	changesKind = 2
	perGen      = 1 << 21 // marks of a generation
	markSize    = 8
)

// generation is what an area holds.
type generation struct {
	state api.State
	gen   int
	area  int
	end   int // the index after the last entry
}

// load returns the generation of an area, if it contains one.
func (p place) load(area int) (generation, bool) {
	g := generation{gen: p.genAt(area), area: area}
	events, ok := p.next(&g, imageKind)
	if !ok {
		return generation{}, false
	}
	state, e := ring.All(api.State{}, events)
	if e != api.OK || !imaged(state, events) {
		return generation{}, false
	}
	g.state = state
	for {
		further := g
		events, ok := p.next(&further, changesKind)
		if !ok {
			return g, true
		}
		further.state, e = ring.All(g.state, events)
		if e != api.OK {
			return g, true
		}
		g = further
	}
}

// genAt returns the generation that the first block of an area claims to belong to.
func (p place) genAt(area int) int {
	block, e := p.disk.Read(area * p.half)
	if e != api.OK {
		return 0
	}
	mark := uint64(0)
	for i := range markSize {
		mark |= uint64(block[i]) << (8 * i)
	}
	return int(mark / perGen)
}

// next reads the events of the entry at the end of a generation, and moves its end behind them.
func (p place) next(g *generation, kind int) ([]api.Event, bool) {
	found, ok := entry.Read(p.disk, g.area*p.half, g.gen, g.end)
	if !ok || found.Kind != kind || g.end+found.Blocks > p.half {
		return nil, false
	}
	events, e := record.Read(found.Text)
	if e != api.OK {
		return nil, false
	}
	g.end += found.Blocks
	return events, true
}

// imaged reports whether events are the image of a state.
func imaged(s api.State, events []api.Event) bool {
	image := plan.Image(s)
	if len(image) != len(events) {
		return false
	}
	for i := range image {
		if image[i] != events[i] {
			return false
		}
	}
	return true
}
