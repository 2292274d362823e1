package bound

import (
	"fmt"
	"math"
	"math/big"
	"math/rand"
	"strings"
	"testing"

	"porter/api"
	"porter/bundle"
	"porter/chain"
	"porter/disk"
	"porter/holder"
	"porter/notary"
	"porter/plan"
	"porter/rate"
	"porter/ring"
	"porter/store"
	"porter/verify"
)

const top = 1 << 40

var key = strings.Repeat("k", 32)

// nearest is what a mathematical result saturates to.
func nearest(n *big.Int) int {
	if n.IsInt64() {
		return int(n.Int64())
	}
	return math.MaxInt
}

func TestTagsAutomataStates(t *testing.T) { // 48.1
	for _, n := range []int{math.MinInt, -2, -1, 0, 1, 2, 3, 37, 64, 1 << 20, 1 << 25, 1 << 31, 1 << 32, math.MaxInt - 2, math.MaxInt - 1, math.MaxInt} {
		m := max(n, 0)
		automata := new(big.Int).Mul(big.NewInt(int64(m)), new(big.Int).Add(big.NewInt(int64(m)), big.NewInt(2)))
		states := new(big.Int).Mul(automata, big.NewInt(8192))
		if Tags(n) != m/2 || Automata(n) != nearest(automata) || States(n) != nearest(states) {
			t.Errorf("for %d: %d, %d, %d", n, Tags(n), Automata(n), States(n))
		}
	}
	if Tags(37) != 18 || Automata(3) != 15 || States(3) != 8192*15 {
		t.Error("the examples are wrong")
	}
}

func TestWindow(t *testing.T) { // 48.2
	numbers := []int{math.MinInt, -1, 0, 1, 2, 4, top, 1 << 62, math.MaxInt}
	for _, a := range numbers {
		for _, b := range numbers {
			for _, c := range numbers {
				want := new(big.Int).Mul(big.NewInt(int64(max(b, 0))), big.NewInt(int64(max(c, 0))))
				want.Add(want, big.NewInt(int64(max(a, 0))))
				if got := Window(api.Class{Cap: a, Fill: b}, c); got != nearest(want) {
					t.Errorf("Window of %d, %d and %d is %d", a, b, c, got)
				}
			}
		}
	}
	if Window(api.Class{Cap: 3, Fill: 2}, 4) != 11 {
		t.Error("the example is wrong")
	}
}

// largest is a state with as much of everything as there can be.
func largest() api.State {
	s := api.State{Serial: top}
	for i := range 16 {
		tenant := api.Tenant{Name: fmt.Sprintf("t%02d", i) + strings.Repeat("x", 29), Epoch: top, Next: top}
		for k := range 8 {
			tenant.Keys = append(tenant.Keys, api.Key{Num: top - 8 + k, Text: key})
		}
		s.Tenants = append(s.Tenants, tenant)
	}
	return s
}

func TestImage(t *testing.T) { // 48.2, 48.3
	if !ring.Right(largest()) || Image(largest()) != Area {
		t.Errorf("the largest state has %d blocks", Image(largest()))
	}
	one := api.State{Tenants: []api.Tenant{{Name: "a", Next: 2, Keys: []api.Key{{Num: 1, Text: key}}}}}
	if Image(api.State{}) != 1 || Image(one) != 1 {
		t.Errorf("small states have %d and %d blocks", Image(api.State{}), Image(one))
	}
	half := largest()
	half.Tenants = half.Tenants[:8]
	if got := Image(half); got != 48 {
		t.Errorf("half of the largest state has %d blocks", got)
	}
	for _, s := range []api.State{{Serial: -1}, {Serial: top + 1}, {Tenants: make([]api.Tenant, 1)}} {
		if Image(s) != 0 {
			t.Errorf("an invalid state has %d blocks", Image(s))
		}
	}
}

func TestWorkOfVerification(t *testing.T) { // 48.3
	r := rand.New(rand.NewSource(48))
	for range 200 {
		tok := api.Token{ID: strings.Repeat("x", r.Intn(3))}
		tok.Tag = chain.Last(key, tok)
		var more []api.Token
		for range r.Intn(64) {
			if r.Intn(6) > 0 || len(more) == 8 {
				tok, _ = holder.Add(tok, strings.Repeat("c", r.Intn(2)))
				continue
			}
			ticket, _ := notary.Ticket(key, "0123456789abcdef", "", "")
			tok, _ = holder.Third(tok, ticket, "", "0123456789abcdef")
			d, _ := notary.Discharge(key, ticket, make([]string, r.Intn(64))...)
			more = append(more, d)
		}
		b := holder.Bundle(tok, more...)
		s, e := bundle.Put(b)
		if e != api.OK {
			t.Fatalf("Put: error %d", e)
		}
		if work := verify.Work(key, b); work > Tags(len(s)) || verify.Most(b) > Tags(len(s)) {
			t.Fatalf("%d tags, at most %d, for %d bytes", work, verify.Most(b), len(s))
		}
	}
}

func TestUnitsWithinAWindow(t *testing.T) { // 48.3
	c := api.Class{Name: "gold", Cap: 3, Fill: 2}
	r, _ := rate.New([]api.Class{c}, 0)
	taken := 0
	for now := 100; now < 110; now++ {
		for r.Take("acme", "gold", now) == api.OK {
			taken++
		}
		if taken > Window(c, now-100) {
			t.Errorf("%d units within %d ticks", taken, now-100)
		}
	}
	if taken != 3+9*2 {
		t.Errorf("%d units", taken)
	}
}

// TestNeverFull: on 190 blocks everything fits, up to the largest state and beyond.
func TestNeverFull(t *testing.T) { // 48.3
	d, _ := disk.New(2 * Area)
	s, e := store.Open(d)
	if e != api.OK {
		t.Fatalf("Open: error %d", e)
	}
	if e := s.Commit(plan.Image(largest())); e != api.OK {
		t.Fatalf("the largest state: error %d", e)
	}
	for i := range 300 {
		tenant := largest().Tenants[i%16]
		newest, _ := ring.Newest(s.State(), tenant.Name)
		l := []api.Event{{Kind: api.EDrop, Tenant: tenant.Name, Num: newest.Num}, {Kind: api.EKey, Tenant: tenant.Name, Num: newest.Num, Text: key}}
		if e := s.Commit(l); e != api.OK {
			t.Fatalf("commit %d: error %d", i, e)
		}
	}
	if e := s.Compact(); e != api.OK || s.End() != Area {
		t.Errorf("Compact: error %d, end %d", e, s.End())
	}
	smaller, _ := disk.New(2*Area - 2)
	s, _ = store.Open(smaller)
	if e := s.Commit(plan.Image(largest())); e != api.ErrFull {
		t.Errorf("on a smaller disk: error %d", e)
	}
}
