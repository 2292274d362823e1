package ring

import (
	"fmt"
	"math"
	"math/rand"
	"reflect"
	"strings"
	"testing"

	"porter/api"
)

const top = 1 << 40

var (
	text  = strings.Repeat("k", 32)
	other = strings.Repeat("o", 32)
	long  = strings.Repeat("w", 32)
)

func tenant(name string, epoch, next int, nums ...int) api.Tenant {
	t := api.Tenant{Name: name, Epoch: epoch, Next: next}
	for _, n := range nums {
		t.Keys = append(t.Keys, api.Key{Num: n, Text: text})
	}
	return t
}

func state(serial int, l ...api.Tenant) api.State { return api.State{Tenants: l, Serial: serial} }

func setsTenant(name string, epoch, next int) api.Event {
	return api.Event{Kind: api.ETenant, Tenant: name, Epoch: epoch, Num: next}
}

func adds(name string, num int) api.Event {
	return api.Event{Kind: api.EKey, Tenant: name, Num: num, Text: other}
}

func drops(name string, num int) api.Event {
	return api.Event{Kind: api.EDrop, Tenant: name, Num: num}
}

func sets(serial int) api.Event { return api.Event{Kind: api.ESerial, Num: serial} }

// show tells all of a state, with empty lists and nil lists alike.
func show(s api.State) string { return fmt.Sprintf("%q %d", fmt.Sprint(s.Tenants), s.Serial) }

// many returns n tenants with rising names.
func many(n int) []api.Tenant {
	var l []api.Tenant
	for i := range n {
		l = append(l, tenant(fmt.Sprintf("t%02d", i), 0, 1))
	}
	return l
}

func TestRight(t *testing.T) { // 38.1
	for i, s := range []api.State{
		{}, state(top), state(1, tenant("a", 0, 1)), state(1, tenant("a", top, top, 1, 5, top-1)), state(1, tenant("a", 0, 9, 1, 2, 3, 4, 5, 6, 7, 8)), state(1, tenant("a", 0, 2, 1), tenant("a-", 0, 1), tenant("aa", 0, 1), tenant(long, 0, 1)), state(0, many(16)...),
	} {
		if !Right(s) {
			t.Errorf("the valid state %d is refused", i)
		}
	}
	for i, s := range invalid() {
		if Right(s) {
			t.Errorf("the invalid state %d is accepted", i)
		}
	}
}

func invalid() []api.State {
	short := tenant("a", 0, 2, 1)
	short.Keys[0].Text = text[1:]
	return []api.State{
		state(-1), state(top + 1), state(0, many(17)...), state(0, tenant("", 0, 1)), state(0, tenant("A", 0, 1)), state(0, tenant(long+"w", 0, 1)), state(0, tenant("b", 0, 1), tenant("a", 0, 1)), state(0, tenant("a", 0, 1), tenant("a", 0, 1)),
		state(0, tenant("a", -1, 1)), state(0, tenant("a", top+1, 1)), state(0, tenant("a", 0, 0)), state(0, tenant("a", 0, -1)), state(0, tenant("a", 0, top+1)), state(0, tenant("a", 0, 10, 1, 2, 3, 4, 5, 6, 7, 8, 9)),
		state(0, tenant("a", 0, 5, 2, 1)), state(0, tenant("a", 0, 5, 1, 1)), state(0, tenant("a", 0, 5, 0)), state(0, tenant("a", 0, 5, -1)), state(0, tenant("a", 0, 5, 5)), state(0, tenant("a", 0, 5, 6)), state(0, short), state(math.MinInt),
	}
}

func with(e api.Event, change func(*api.Event)) api.Event {
	change(&e)
	return e
}

func malformed() []api.Event {
	return []api.Event{
		{}, {Kind: 5}, {Kind: -1}, setsTenant("", 0, 1), setsTenant("A", 0, 1), setsTenant("a", -1, 1), setsTenant("a", top+1, 1), setsTenant("a", 0, 0), setsTenant("a", 0, top+1), with(setsTenant("a", 0, 1), func(e *api.Event) { e.Text = text }),
		adds("", 1), adds("a", 0), adds("a", -1), adds("a", top+1), with(adds("a", 1), func(e *api.Event) { e.Epoch = 1 }), with(adds("a", 1), func(e *api.Event) { e.Text = text[1:] }), with(adds("a", 1), func(e *api.Event) { e.Text = "" }), with(adds("a", 1), func(e *api.Event) { e.Text += "x" }),
		drops("A", 1), drops("a", 0), drops("a", top+1), with(drops("a", 1), func(e *api.Event) { e.Text = text }), with(drops("a", 1), func(e *api.Event) { e.Epoch = 1 }),
		sets(-1), sets(top + 1), with(sets(1), func(e *api.Event) { e.Tenant = "a" }), with(sets(1), func(e *api.Event) { e.Epoch = 1 }), with(sets(1), func(e *api.Event) { e.Text = text }),
	}
}

func TestForm(t *testing.T) { // 38.1
	for _, e := range []api.Event{setsTenant("a", 0, 1), setsTenant(long, top, top), adds("a", 1), adds("a", top), drops("a", 1), drops("a", top), sets(0), sets(top)} {
		if !Form(e) {
			t.Errorf("%v is refused", e)
		}
	}
	for _, e := range malformed() {
		if Form(e) {
			t.Errorf("%v is accepted", e)
		}
		if s, code := Apply(state(0, tenant("a", 0, 5)), e); code != api.ErrForm || show(s) != show(api.State{}) {
			t.Errorf("Apply of %v: error %d", e, code)
		}
	}
}

func TestApply(t *testing.T) { // 38.2
	base := state(7, tenant("b", 3, 9, 2, 5), tenant("d", 0, 1))
	withKey := state(7, tenant("b", 3, 9, 2, 4, 5), tenant("d", 0, 1))
	withKey.Tenants[0].Keys[1].Text = other
	for _, c := range []struct {
		e    api.Event
		want api.State
		code api.Errno
	}{
		{setsTenant("a", 4, 6), state(7, tenant("a", 4, 6), base.Tenants[0], base.Tenants[1]), api.OK}, {setsTenant("c", 0, 1), state(7, base.Tenants[0], tenant("c", 0, 1), base.Tenants[1]), api.OK}, {setsTenant("e", 0, 1), state(7, base.Tenants[0], base.Tenants[1], tenant("e", 0, 1)), api.OK},
		{setsTenant("b", 3, 9), base, api.OK}, {setsTenant("b", 4, 9), state(7, tenant("b", 4, 9, 2, 5), base.Tenants[1]), api.OK}, {setsTenant("b", 3, 10), state(7, tenant("b", 3, 10, 2, 5), base.Tenants[1]), api.OK}, {setsTenant("b", 2, 10), api.State{}, api.ErrArg}, {setsTenant("b", 4, 8), api.State{}, api.ErrArg},
		{adds("b", 4), withKey, api.OK}, {adds("c", 1), api.State{}, api.ErrNone}, {adds("b", 9), api.State{}, api.ErrArg}, {adds("b", top), api.State{}, api.ErrArg}, {adds("b", 5), api.State{}, api.ErrTwice}, {adds("d", 1), api.State{}, api.ErrArg},
		{drops("b", 2), state(7, tenant("b", 3, 9, 5), base.Tenants[1]), api.OK}, {drops("b", 5), state(7, tenant("b", 3, 9, 2), base.Tenants[1]), api.OK}, {drops("b", 3), api.State{}, api.ErrNone}, {drops("c", 1), api.State{}, api.ErrNone}, {drops("d", 1), api.State{}, api.ErrNone},
		{sets(7), base, api.OK}, {sets(8), state(8, base.Tenants...), api.OK}, {sets(top), state(top, base.Tenants...), api.OK}, {sets(6), api.State{}, api.ErrArg}, {sets(0), api.State{}, api.ErrArg},
	} {
		before := show(base)
		got, code := Apply(base, c.e)
		if show(got) != show(c.want) || code != c.code {
			t.Errorf("Apply of %v = %v, error %d", c.e, got, code)
		}
		if show(base) != before {
			t.Fatalf("Apply of %v changes its argument", c.e)
		}
	}
}

func TestLimits(t *testing.T) { // 38.2
	full := state(0, many(16)...)
	if s, code := Apply(full, setsTenant("x", 0, 1)); code != api.ErrLimit || show(s) != show(api.State{}) {
		t.Errorf("a 17th tenant: error %d", code)
	}
	if _, code := Apply(full, setsTenant("t03", 1, 1)); code != api.OK {
		t.Errorf("an existing tenant: error %d", code)
	}
	keys := state(0, tenant("a", 0, 20, 1, 2, 3, 4, 5, 6, 7, 8))
	for num, want := range map[int]api.Errno{9: api.ErrLimit, 8: api.ErrTwice, 20: api.ErrArg} {
		if _, code := Apply(keys, adds("a", num)); code != want {
			t.Errorf("a ninth key %d: error %d, want %d", num, code, want)
		}
	}
	for i, s := range invalid() {
		if _, code := Apply(s, sets(top)); code != api.ErrArg {
			t.Errorf("the invalid state %d: error %d", i, code)
		}
		if _, code := Apply(s, api.Event{}); code != api.ErrArg {
			t.Errorf("the invalid state %d with a malformed event: error %d", i, code)
		}
		if got, code := All(s, nil); code != api.ErrArg || show(got) != show(api.State{}) {
			t.Errorf("All of the invalid state %d: error %d", i, code)
		}
	}
}

func TestAll(t *testing.T) { // 38.3
	s, code := All(api.State{}, []api.Event{setsTenant("acme", 0, 2), adds("acme", 1)})
	if code != api.OK || len(s.Tenants) != 1 || len(s.Tenants[0].Keys) != 1 || s.Tenants[0].Keys[0] != (api.Key{Num: 1, Text: other}) {
		t.Errorf("the example yields %v, error %d", s, code)
	}
	if got, code := All(s, nil); code != api.OK || show(got) != show(s) {
		t.Errorf("All of nothing: %v, error %d", got, code)
	}
	for _, c := range []struct {
		l    []api.Event
		want api.Errno
	}{
		{[]api.Event{adds("b", 1), {}}, api.ErrNone}, {[]api.Event{{}, adds("b", 1)}, api.ErrForm}, {[]api.Event{sets(5), sets(4)}, api.ErrArg}, {[]api.Event{drops("acme", 1), drops("acme", 1)}, api.ErrNone}, {[]api.Event{sets(1), adds("acme", 1)}, api.ErrTwice},
	} {
		if got, code := All(s, c.l); code != c.want || show(got) != show(api.State{}) {
			t.Errorf("All of %v: error %d, want %d", c.l, code, c.want)
		}
	}
}

func TestLookups(t *testing.T) { // 38.4
	s := state(0, tenant("b", 0, 9, 2, 5), tenant("a", 0, 1), tenant("b", 0, 9, 7))
	s.Tenants[0].Keys = append(s.Tenants[0].Keys, api.Key{Num: 2, Text: "second"})
	for name, want := range map[string]int{"b": 0, "a": 1, "c": -1, "": -1} {
		if got := Find(s, name); got != want {
			t.Errorf("Find of %q is %d", name, got)
		}
	}
	for _, c := range []struct {
		name string
		num  int
		want string
		ok   bool
	}{{"b", 2, text, true}, {"b", 5, text, true}, {"b", 7, "", false}, {"b", 0, "", false}, {"a", 1, "", false}, {"c", 2, "", false}} {
		if got, ok := Key(s, c.name, c.num); got != c.want || ok != c.ok {
			t.Errorf("Key of %s and %d is %q, %v", c.name, c.num, got, ok)
		}
	}
	if k, ok := Newest(s, "b"); k != (api.Key{Num: 2, Text: "second"}) || !ok {
		t.Errorf("Newest is %v, %v", k, ok)
	}
	for _, name := range []string{"a", "c"} {
		if k, ok := Newest(s, name); k != (api.Key{}) || ok {
			t.Errorf("Newest of %s is %v, %v", name, k, ok)
		}
	}
}

func TestProperties(t *testing.T) { // 38.5
	r := rand.New(rand.NewSource(38))
	names := []string{"a", "b", "c"}
	for range 200 {
		s := api.State{}
		for range 60 {
			name := names[r.Intn(3)]
			e := []api.Event{setsTenant(name, r.Intn(5), 1+r.Intn(12)), adds(name, 1+r.Intn(12)), drops(name, 1+r.Intn(12)), sets(r.Intn(9)), {}}[r.Intn(5)]
			after, code := Apply(s, e)
			if code != api.OK {
				continue
			}
			if !Right(after) || after.Serial < s.Serial {
				t.Fatalf("after %v: %v", e, after)
			}
			for _, n := range names {
				i, k := Find(s, n), Find(after, n)
				if i >= 0 && (k < 0 || after.Tenants[k].Epoch < s.Tenants[i].Epoch || after.Tenants[k].Next < s.Tenants[i].Next) {
					t.Fatalf("%v decreases a number of %v", e, s)
				}
				if n == e.Tenant {
					continue
				}
				if (i < 0) != (k < 0) || i >= 0 && fmt.Sprint(s.Tenants[i]) != fmt.Sprint(after.Tenants[k]) {
					t.Fatalf("%v changes %s", e, n)
				}
			}
			s = after
		}
	}
}

func TestNothingIsShared(t *testing.T) {
	s := state(0, tenant("a", 0, 9, 1, 2), tenant("b", 0, 9, 3))
	before := state(0, tenant("a", 0, 9, 1, 2), tenant("b", 0, 9, 3))
	x, _ := Apply(s, sets(1))
	y, _ := All(s, nil)
	for _, got := range []api.State{x, y} {
		got.Tenants[0].Name = "z"
		got.Tenants[0].Keys[0].Num = 99
		got.Tenants[1].Keys[0].Text = ""
	}
	if !reflect.DeepEqual(s, before) {
		t.Error("a result shares memory with the argument")
	}
}
