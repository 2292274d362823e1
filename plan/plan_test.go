package plan

import (
	"fmt"
	"math/rand"
	"slices"
	"strings"
	"testing"

	"porter/api"
	"porter/ring"
)

const top = 1 << 40

var (
	text  = strings.Repeat("k", 32)
	other = strings.Repeat("o", 32)
)

func tenant(name string, epoch, next int, nums ...int) api.Tenant {
	t := api.Tenant{Name: name, Epoch: epoch, Next: next}
	for _, n := range nums {
		t.Keys = append(t.Keys, api.Key{Num: n, Text: text})
	}
	return t
}

func state(serial int, l ...api.Tenant) api.State { return api.State{Tenants: l, Serial: serial} }

// show tells all of a state, with empty lists and nil lists alike.
func show(s api.State) string { return fmt.Sprint(s.Tenants, s.Serial) }

func many(n int) []api.Tenant {
	var l []api.Tenant
	for i := range n {
		l = append(l, tenant(fmt.Sprintf("t%02d", i), 0, 2, 1))
	}
	return l
}

// full has as much of everything as a state can have.
func full() api.State {
	var l []api.Tenant
	for i := range 16 {
		l = append(l, tenant(fmt.Sprintf("t%02d", i), top-1, top-1, 1, 2, 3, 4, 5, 6, 7, 8))
	}
	return state(top, l...)
}

func TestImage(t *testing.T) { // 40.1, 40.3
	got := Image(state(7, tenant("a", 3, 9, 2, 5), tenant("b", 0, 1)))
	want := []api.Event{{Kind: api.ETenant, Tenant: "a", Epoch: 3, Num: 9}, {Kind: api.EKey, Tenant: "a", Num: 2, Text: text}, {Kind: api.EKey, Tenant: "a", Num: 5, Text: text}, {Kind: api.ETenant, Tenant: "b", Num: 1}, {Kind: api.ESerial, Num: 7}}
	if !slices.Equal(got, want) {
		t.Errorf("Image is %v", got)
	}
	if got := Image(api.State{}); !slices.Equal(got, []api.Event{{Kind: api.ESerial}}) {
		t.Errorf("Image of the zero state is %v", got)
	}
	for _, s := range []api.State{{}, state(7, tenant("a", 3, 9, 2, 5), tenant("b", 0, 1)), full()} {
		if got, e := ring.All(api.State{}, Image(s)); e != api.OK || show(got) != show(s) {
			t.Errorf("the image yields %v, error %d", got, e)
		}
	}
	if got := Image(state(-1)); len(got) != 0 {
		t.Errorf("Image of an invalid state is %v", got)
	}
}

// planned is a plan with its result.
type planned struct {
	l []api.Event
	e api.Errno
}

func of(l []api.Event, e api.Errno) planned { return planned{l, e} }

func TestPlans(t *testing.T) { // 40.2
	s := state(6, tenant("a", 3, 9, 2, 5), tenant("b", 0, 1), tenant("c", top, top, 1), tenant("d", 0, 20, 1, 2, 3, 4, 5, 6, 7, 8), tenant("e", top-1, top-1, 1, 2))
	for i, c := range []struct {
		got  planned
		want planned
	}{
		{of(Tenant(s, "acme", text)), of([]api.Event{{Kind: api.ETenant, Tenant: "acme", Num: 2}, {Kind: api.EKey, Tenant: "acme", Num: 1, Text: text}}, api.OK)},
		{of(Tenant(s, "A", "")), of(nil, api.ErrName)}, {of(Tenant(s, "a", "")), of(nil, api.ErrArg)}, {of(Tenant(s, "x", text[1:])), of(nil, api.ErrArg)}, {of(Tenant(s, "x", text+"k")), of(nil, api.ErrArg)}, {of(Tenant(s, "a", text)), of(nil, api.ErrTwice)},
		{of(Tenant(state(0, many(16)...), "x", text)), of(nil, api.ErrLimit)}, {of(Tenant(state(0, many(16)...), "t03", text)), of(nil, api.ErrTwice)},
		{of(Rotate(s, "a", other)), of([]api.Event{{Kind: api.ETenant, Tenant: "a", Epoch: 3, Num: 10}, {Kind: api.EKey, Tenant: "a", Num: 9, Text: other}}, api.OK)}, {of(Rotate(s, "b", other)), of([]api.Event{{Kind: api.ETenant, Tenant: "b", Num: 2}, {Kind: api.EKey, Tenant: "b", Num: 1, Text: other}}, api.OK)}, {of(Rotate(s, "e", other)), of([]api.Event{{Kind: api.ETenant, Tenant: "e", Epoch: top - 1, Num: top}, {Kind: api.EKey, Tenant: "e", Num: top - 1, Text: other}}, api.OK)},
		{of(Rotate(s, "x", "")), of(nil, api.ErrNone)}, {of(Rotate(s, "", text)), of(nil, api.ErrNone)}, {of(Rotate(s, "d", "")), of(nil, api.ErrArg)}, {of(Rotate(s, "d", text)), of(nil, api.ErrLimit)}, {of(Rotate(s, "c", text)), of(nil, api.ErrLimit)},
		{of(Retire(s, "a", 2)), of([]api.Event{{Kind: api.EDrop, Tenant: "a", Num: 2}}, api.OK)}, {of(Retire(s, "a", 5)), of(nil, api.ErrArg)}, {of(Retire(s, "a", 3)), of(nil, api.ErrNone)}, {of(Retire(s, "b", 0)), of(nil, api.ErrNone)}, {of(Retire(s, "x", 1)), of(nil, api.ErrNone)}, {of(Retire(s, "c", 1)), of(nil, api.ErrArg)}, {of(Retire(s, "a", -1)), of(nil, api.ErrNone)},
		{of(Revoke(s, "a")), of([]api.Event{{Kind: api.ETenant, Tenant: "a", Epoch: 4, Num: 9}}, api.OK)}, {of(Revoke(s, "e")), of([]api.Event{{Kind: api.ETenant, Tenant: "e", Epoch: top, Num: top - 1}}, api.OK)}, {of(Revoke(s, "c")), of(nil, api.ErrLimit)}, {of(Revoke(s, "x")), of(nil, api.ErrNone)},
		{of(Mint(s, "a")), of([]api.Event{{Kind: api.ESerial, Num: 7}}, api.OK)}, {of(Mint(s, "b")), of(nil, api.ErrNone)}, {of(Mint(s, "x")), of(nil, api.ErrNone)}, {of(Mint(full(), "t00")), of(nil, api.ErrLimit)}, {of(Mint(full(), "x")), of(nil, api.ErrNone)}, {of(Mint(state(top-1, many(1)...), "t00")), of([]api.Event{{Kind: api.ESerial, Num: top}}, api.OK)},
	} {
		if !slices.Equal(c.got.l, c.want.l) || c.got.e != c.want.e {
			t.Errorf("case %d: %v, want %v", i, c.got, c.want)
		}
	}
}

func TestInvalidStates(t *testing.T) { // 40.2
	for i, s := range []api.State{state(-1), state(0, many(17)...), state(0, tenant("a", 0, 1, 1)), state(0, tenant("b", 0, 1), tenant("a", 0, 1))} {
		for k, got := range []planned{of(Tenant(s, "A", "")), of(Tenant(s, "x", text)), of(Rotate(s, "x", "")), of(Rotate(s, "a", text)), of(Retire(s, "x", 1)), of(Retire(s, "a", 1)), of(Revoke(s, "x")), of(Revoke(s, "a")), of(Mint(s, "x")), of(Mint(s, "a"))} {
			if got.e != api.ErrArg || len(got.l) != 0 {
				t.Errorf("plan %d of the invalid state %d: %v", k, i, got)
			}
		}
	}
}

func TestProperties(t *testing.T) { // 40.3
	r := rand.New(rand.NewSource(40))
	names := []string{"a", "b", "c"}
	for range 100 {
		s := api.State{}
		for range 60 {
			name, num := names[r.Intn(3)], r.Intn(12)
			kind := r.Intn(5)
			got := []planned{of(Tenant(s, name, text)), of(Rotate(s, name, other)), of(Retire(s, name, num)), of(Revoke(s, name)), of(Mint(s, name))}[kind]
			if got.e != api.OK {
				continue
			}
			after, e := ring.All(s, got.l)
			if e != api.OK {
				t.Fatalf("the plan %v cannot be applied to %v: error %d", got.l, s, e)
			}
			if want := expected(s, kind, name, num); show(after) != show(want) {
				t.Fatalf("the plan %v of %v yields %v, want %v", got.l, s, after, want)
			}
			s = after
		}
	}
}

// expected makes a change by hand.
func expected(s api.State, kind int, name string, num int) api.State {
	s, _ = ring.All(s, nil)
	at := ring.Find(s, name)
	switch kind {
	case 0:
		s.Tenants = append(s.Tenants, tenant(name, 0, 2, 1))
		slices.SortFunc(s.Tenants, func(a, b api.Tenant) int { return strings.Compare(a.Name, b.Name) })
	case 1:
		t := &s.Tenants[at]
		t.Keys = append(t.Keys, api.Key{Num: t.Next, Text: other})
		t.Next++
	case 2:
		t := &s.Tenants[at]
		t.Keys = slices.DeleteFunc(t.Keys, func(k api.Key) bool { return k.Num == num })
	case 3:
		s.Tenants[at].Epoch++
	case 4:
		s.Serial++
	}
	return s
}
