package store

import (
	"fmt"
	"math/rand"
	"strings"
	"testing"

	"porter/api"
	"porter/disk"
	"porter/entry"
	"porter/plan"
	"porter/record"
	"porter/ring"
)

var text = strings.Repeat("k", 32)

func made(t *testing.T, blocks int, crashes ...api.Crash) *disk.Disk {
	t.Helper()
	d, e := disk.New(blocks, crashes...)
	if e != api.OK {
		t.Fatalf("New: error %d", e)
	}
	return d
}

func opened(t *testing.T, d *disk.Disk) *Store {
	t.Helper()
	s, e := Open(d)
	if s == nil || e != api.OK {
		t.Fatalf("Open: error %d", e)
	}
	return s
}

// show tells all of a state, with empty lists and nil lists alike.
func show(s api.State) string { return fmt.Sprint(s.Tenants, s.Serial) }

func serial(n int) []api.Event { return []api.Event{{Kind: api.ESerial, Num: n}} }

func tenant(name string) []api.Event {
	return []api.Event{{Kind: api.ETenant, Tenant: name, Num: 2}, {Kind: api.EKey, Tenant: name, Num: 1, Text: text}}
}

func tenants(names ...string) []api.Event {
	var l []api.Event
	for _, name := range names {
		l = append(l, tenant(name)...)
	}
	return l
}

// batch returns the batch of events.
func batch(l []api.Event) string {
	s, _ := record.Batch(l)
	return s
}

func TestOpen(t *testing.T) { // 44.1, 44.4
	for _, d := range []*disk.Disk{nil, {}} {
		if s, e := Open(d); s != nil || e != api.ErrNil {
			t.Errorf("Open of a disk that was not made: error %d", e)
		}
	}
	for blocks, want := range map[int]api.Errno{1: api.ErrArg, 3: api.ErrArg, 4: api.OK, 5: api.OK, 4096: api.OK} {
		d := made(t, blocks)
		s, e := Open(d)
		if e != want || (s == nil) != (e != api.OK) {
			t.Fatalf("Open of %d blocks: error %d", blocks, e)
		}
		if s != nil && (s.Half() != blocks/2 || s.Gen() != 1 || s.End() != 1 || show(s.State()) != show(api.State{}) || d.Writes() != 1) {
			t.Errorf("%d blocks: half %d, generation %d, end %d, state %v", blocks, s.Half(), s.Gen(), s.End(), s.State())
		}
	}
	off := made(t, 3, api.Crash{})
	off.Write(0, strings.Repeat("x", 128))
	if s, e := Open(off); s != nil || e != api.ErrDown {
		t.Errorf("Open without power: error %d", e)
	}
	torn := made(t, 4, api.Crash{Keep: 100})
	if s, e := Open(torn); s != nil || e != api.ErrDown {
		t.Errorf("Open with a crash: error %d", e)
	}
	torn.Power()
	if s := opened(t, torn); s.Gen() != 1 || torn.Writes() != 2 {
		t.Errorf("generation %d after %d writes", s.Gen(), torn.Writes())
	}
	// Opening again writes nothing.
	if s := opened(t, torn); s.Gen() != 1 || s.End() != 1 || torn.Writes() != 2 {
		t.Errorf("generation %d after %d writes", s.Gen(), torn.Writes())
	}
}

func TestWhatIsStored(t *testing.T) { // 44.1, 44.2
	d := made(t, 11)
	s := opened(t, d)
	if e, ok := entry.Read(d, 0, 1, 0); !ok || e.Kind != 1 || e.Text != batch(plan.Image(api.State{})) {
		t.Errorf("the first entry is %v", e)
	}
	if e := s.Commit(tenant("a")); e != api.OK || s.End() != 2 || s.Gen() != 1 {
		t.Fatalf("Commit: error %d, end %d", e, s.End())
	}
	long := tenants("b", "c", "d", "e", "f") // three blocks
	if e := s.Commit(long); e != api.OK || s.End() != 5 {
		t.Fatalf("Commit: error %d, end %d", e, s.End())
	}
	for index, want := range map[int]string{1: batch(tenant("a")), 2: batch(long)} {
		if e, ok := entry.Read(d, 0, 1, index); !ok || e.Kind != 2 || e.Text != want {
			t.Errorf("the entry at %d is %v", index, e)
		}
	}
	// The area of five blocks is full: the image goes to the other one.
	state := s.State()
	if e := s.Commit(serial(1)); e != api.OK || s.Gen() != 2 {
		t.Fatalf("Commit into a full area: error %d, generation %d", e, s.Gen())
	}
	state.Serial = 1
	image := batch(plan.Image(state))
	if e, ok := entry.Read(d, 5, 2, 0); !ok || e.Kind != 1 || e.Text != image || s.End() != e.Blocks || s.End() != entry.Blocks(len(image)) {
		t.Errorf("the image is %v, end %d", e, s.End())
	}
	if block, _ := d.Read(10); block != strings.Repeat("\x00", 128) {
		t.Error("the odd block is written")
	}
	if again := opened(t, d); show(again.State()) != show(state) || again.Gen() != 2 || again.End() != s.End() {
		t.Errorf("opened again: %v", again.State())
	}
}

func TestCommit(t *testing.T) { // 44.2
	d := made(t, 20)
	s := opened(t, d)
	for i, c := range []struct {
		l    []api.Event
		want api.Errno
	}{
		{[]api.Event{{}}, api.ErrForm}, {[]api.Event{{Kind: api.EDrop, Tenant: "x", Num: 1}}, api.ErrNone}, {append(serial(5), serial(4)...), api.ErrArg}, {nil, api.OK}, {[]api.Event{}, api.OK},
	} {
		writes := d.Writes()
		if e := s.Commit(c.l); e != c.want || d.Writes() != writes || s.End() != 1 || show(s.State()) != show(api.State{}) {
			t.Errorf("case %d: error %d, want %d", i, e, c.want)
		}
	}
	var many []api.Event
	for range 257 {
		many = append(many, serial(1)...)
	}
	if e := s.Commit(many); e != api.ErrLimit || show(s.State()) != show(api.State{}) {
		t.Errorf("257 events: error %d", e)
	}
	if e := s.Commit(append(many[1:], api.Event{})); e != api.ErrForm {
		t.Errorf("257 events, one malformed: error %d", e)
	}
	if e := s.Commit(append(tenant("a"), serial(3)...)); e != api.OK || s.State().Serial != 3 || len(s.State().Tenants) != 1 {
		t.Errorf("Commit: error %d, %v", e, s.State())
	}
	if again := opened(t, d); show(again.State()) != show(s.State()) {
		t.Errorf("opened again: %v", again.State())
	}
}

func TestFull(t *testing.T) { // 44.2, 44.3
	d := made(t, 4)
	s := opened(t, d)
	if e := s.Commit(tenant("a")); e != api.OK || s.End() != 2 {
		t.Fatalf("Commit: error %d", e)
	}
	// The image of six tenants has three blocks, and an area two.
	state := show(s.State())
	writes := d.Writes()
	if e := s.Commit(tenants("b", "c", "d", "e", "f")); e != api.ErrFull || show(s.State()) != state || d.Writes() != writes {
		t.Errorf("Commit of too much: error %d", e)
	}
	if e := s.Commit(serial(9)); e != api.OK || s.State().Serial != 9 || s.Gen() != 2 || s.End() != 1 {
		t.Errorf("Commit after ErrFull: error %d", e)
	}
	// From here it would be switched to the first area, behind which there are blocks, but not its own.
	before := show(s.State())
	if e := s.Commit(tenants("b", "c", "d", "e", "f")); e != api.ErrFull || show(s.State()) != before || s.Gen() != 2 {
		t.Errorf("Commit of too much for the first area: error %d", e)
	}
	// What does not fit behind the end fits into an area, or the other way round.
	if e := s.Commit(tenants("b", "c", "d")); e != api.OK || s.Gen() != 3 || s.End() != 2 {
		t.Errorf("Commit of three tenants: error %d, generation %d, end %d", e, s.Gen(), s.End())
	}
	if e := s.Compact(); e != api.OK || s.Gen() != 4 || s.End() != s.Half() {
		t.Errorf("Compact of an image as large as an area: error %d, generation %d, end %d", e, s.Gen(), s.End())
	}
}

func TestCompact(t *testing.T) { // 44.3
	d := made(t, 20)
	s := opened(t, d)
	for i := range 4 {
		s.Commit(serial(i + 1))
	}
	s.Commit(tenants("a", "b", "c", "d", "e", "f"))
	before := show(s.State())
	for gen := 2; gen < 6; gen++ {
		if e := s.Compact(); e != api.OK || s.Gen() != gen || s.End() != 3 || show(s.State()) != before {
			t.Errorf("Compact: error %d, generation %d, end %d", e, s.Gen(), s.End())
		}
		if again := opened(t, d.Copy()); show(again.State()) != before || again.Gen() != gen || again.End() != 3 {
			t.Errorf("opened again: generation %d, end %d", again.Gen(), again.End())
		}
	}
}

func TestFailed(t *testing.T) { // 44.2, 44.3
	for _, do := range []func(*Store) api.Errno{func(s *Store) api.Errno { return s.Commit(serial(1)) }, (*Store).Compact} {
		d := made(t, 8, api.Crash{At: 2, Keep: 5})
		s := opened(t, d)
		s.Commit(tenant("a"))
		before := show(s.State())
		if e := do(s); e != api.ErrDown || show(s.State()) != before || s.Gen() != 1 || s.End() != 2 {
			t.Fatalf("error %d", e)
		}
		d.Power()
		writes := d.Writes()
		if s.Commit(serial(2)) != api.ErrDown || s.Commit(nil) != api.ErrDown || s.Commit([]api.Event{{}}) != api.ErrDown || s.Compact() != api.ErrDown || d.Writes() != writes {
			t.Error("a failed store goes on")
		}
		if again := opened(t, d); show(again.State()) != before || again.Commit(serial(2)) != api.OK {
			t.Error("a new store does not go on")
		}
	}
	// Power that is lost elsewhere is noticed at the next write.
	d := made(t, 8, api.Crash{At: 1})
	s := opened(t, d)
	d.Write(7, strings.Repeat("x", 128))
	if e := s.Commit(serial(1)); e != api.ErrDown {
		t.Errorf("error %d", e)
	}
	d.Power()
	if e := s.Commit(serial(1)); e != api.ErrDown {
		t.Errorf("error %d", e)
	}
}

func TestStoresThatOpenDidNotMake(t *testing.T) { // 44.2 to 44.4
	for _, s := range []*Store{nil, {}} {
		if s.Commit(nil) != api.ErrNil || s.Commit([]api.Event{{}}) != api.ErrNil || s.Compact() != api.ErrNil || show(s.State()) != show(api.State{}) || s.Gen() != 0 || s.End() != 0 || s.Half() != 0 {
			t.Errorf("%v does something", s)
		}
	}
}

// TestGenerations: what is no generation does not count, and its entries are read as far as they go.
func TestGenerations(t *testing.T) { // 44.1
	image := batch(plan.Image(api.State{Serial: 5}))
	for i, c := range []struct {
		write  func(d *disk.Disk)
		serial int
		gen    int
		end    int
	}{
		{func(d *disk.Disk) { entry.Write(d, 10, 7, 0, 1, image) }, 5, 7, 1},
		{func(d *disk.Disk) {
			entry.Write(d, 0, 7, 0, 1, image)
			entry.Write(d, 10, 6, 0, 1, batch(plan.Image(api.State{})))
		}, 5, 7, 1},
		{func(d *disk.Disk) {
			entry.Write(d, 0, 6, 0, 1, batch(plan.Image(api.State{})))
			entry.Write(d, 10, 7, 0, 1, image)
		}, 5, 7, 1},
		{func(d *disk.Disk) { entry.Write(d, 10, 7, 0, 2, image) }, 0, 1, 1},                                  // of kind 2
		{func(d *disk.Disk) { entry.Write(d, 10, 7, 1, 1, image) }, 0, 1, 1},                                  // not at index 0
		{func(d *disk.Disk) { entry.Write(d, 9, 7, 1, 1, image) }, 0, 1, 1},                                   // of another area
		{func(d *disk.Disk) { entry.Write(d, 10, 7, 0, 1, "x") }, 0, 1, 1},                                    // no batch
		{func(d *disk.Disk) { entry.Write(d, 10, 7, 0, 1, batch(append(serial(1), serial(5)...))) }, 0, 1, 1}, // no image
		{func(d *disk.Disk) {
			entry.Write(d, 10, 7, 0, 1, batch([]api.Event{{Kind: api.EKey, Tenant: "a", Num: 1, Text: text}}))
		}, 0, 1, 1}, // cannot be applied
		{func(d *disk.Disk) { entry.Write(d, 10, 7, 0, 1, batch(append(tenants("b", "a"), serial(5)...))) }, 0, 1, 1}, // in another order than an image
		{func(d *disk.Disk) { entry.Write(d, 10, 7, 0, 1, batch(append(serial(5), serial(5)...))) }, 0, 1, 1},         // more than an image
		{func(d *disk.Disk) { entry.Write(d, 10, 7, 0, 1, batch(tenant("a"))) }, 0, 1, 1},                             // less than an image
		{func(d *disk.Disk) { entry.Write(d, 10, 7, 0, 1, batch(nil)) }, 0, 1, 1},                                     // nothing
		{func(d *disk.Disk) {
			entry.Write(d, 10, 7, 0, 1, image)
			entry.Write(d, 10, 7, 1, 2, batch(serial(6)))
			entry.Write(d, 10, 7, 2, 2, batch(serial(8)))
		}, 8, 7, 3},
		{func(d *disk.Disk) {
			entry.Write(d, 10, 7, 0, 1, image)
			entry.Write(d, 10, 7, 1, 2, batch(serial(4)))
			entry.Write(d, 10, 7, 2, 2, batch(serial(8)))
		}, 5, 7, 1},
		{func(d *disk.Disk) { entry.Write(d, 10, 7, 0, 1, image); entry.Write(d, 10, 7, 1, 1, batch(serial(6))) }, 5, 7, 1},
		{func(d *disk.Disk) { entry.Write(d, 10, 7, 0, 1, image); entry.Write(d, 10, 7, 1, 3, batch(serial(6))) }, 5, 7, 1},
		{func(d *disk.Disk) { entry.Write(d, 10, 7, 0, 1, image); entry.Write(d, 10, 6, 1, 2, batch(serial(6))) }, 5, 7, 1},
		{func(d *disk.Disk) { entry.Write(d, 10, 7, 0, 1, image); entry.Write(d, 10, 7, 2, 2, batch(serial(6))) }, 5, 7, 1},
		{func(d *disk.Disk) { entry.Write(d, 10, 7, 0, 1, image); entry.Write(d, 10, 7, 1, 2, "x") }, 5, 7, 1},
		{func(d *disk.Disk) {
			entry.Write(d, 10, 7, 0, 1, image)
			entry.Write(d, 10, 7, 1, 2, batch(nil))
			entry.Write(d, 10, 7, 2, 2, batch(serial(6)))
		}, 6, 7, 3},
	} {
		d := made(t, 20)
		c.write(d)
		if s := opened(t, d); s.State().Serial != c.serial || s.Gen() != c.gen || s.End() != c.end {
			t.Errorf("case %d: serial %d, generation %d, end %d", i, s.State().Serial, s.Gen(), s.End())
		}
	}
}

// change returns events that can be applied to a state.
func change(r *rand.Rand, s api.State) []api.Event {
	names := []string{"a", "b", "long-" + strings.Repeat("x", 25)}
	name := names[r.Intn(3)]
	var l []api.Event
	switch r.Intn(6) {
	case 0:
		l, _ = plan.Tenant(s, name, text)
	case 1:
		l, _ = plan.Rotate(s, name, text)
	case 2:
		l, _ = plan.Retire(s, name, 1+r.Intn(4))
	case 3:
		l, _ = plan.Revoke(s, name)
	case 4:
		return append(serial(s.Serial+1), serial(s.Serial+2)...)
	}
	if len(l) == 0 {
		return serial(s.Serial + 1)
	}
	return l
}

func TestCrashes(t *testing.T) { // 44.5
	r := rand.New(rand.NewSource(44))
	for round := range 400 {
		var crashes []api.Crash
		for range r.Intn(8) {
			crashes = append(crashes, api.Crash{At: r.Intn(40), Keep: r.Intn(130)})
		}
		d := made(t, []int{20, 24, 31, 60}[r.Intn(4)], crashes...)
		acknowledged := api.State{}
		gen := 0
		reopen := func(pending string) *Store {
			for {
				d.Power()
				s, e := Open(d)
				if e == api.ErrDown {
					continue
				}
				if e != api.OK {
					t.Fatalf("round %d: Open: error %d", round, e)
				}
				if got := show(s.State()); got != show(acknowledged) && got != pending {
					t.Fatalf("round %d: after a crash %s, want %s or %s", round, got, show(acknowledged), pending)
				}
				if s.Gen() < gen {
					t.Fatalf("round %d: generation %d after %d", round, s.Gen(), gen)
				}
				acknowledged, gen = s.State(), s.Gen()
				return s
			}
		}
		s := reopen("")
		for range 25 {
			l := change(r, s.State())
			pending, _ := ring.All(s.State(), l)
			e := api.OK
			if r.Intn(6) == 0 {
				e, pending = s.Compact(), s.State()
			} else {
				e = s.Commit(l)
			}
			switch e {
			case api.OK:
				acknowledged = pending
			case api.ErrFull:
			case api.ErrDown:
				s = reopen(show(pending))
			default:
				t.Fatalf("round %d: error %d", round, e)
			}
			if show(s.State()) != show(acknowledged) || s.Gen() < gen {
				t.Fatalf("round %d: state %s, want %s", round, show(s.State()), show(acknowledged))
			}
			gen = s.Gen()
			if r.Intn(5) == 0 {
				s = reopen("")
			}
		}
	}
}

// TestEveryCrash: a switch and commits of several blocks, interrupted at every write after every number of bytes.
func TestEveryCrash(t *testing.T) { // 44.5
	steps := [][]api.Event{tenant("a"), append(tenant("b"), tenant("c")...), serial(1), append(tenant("d"), tenant("e")...), serial(2)}
	for write := range 20 {
		for keep := range 129 {
			d := made(t, 16, api.Crash{At: write, Keep: keep})
			s, e := Open(d)
			if e == api.ErrDown {
				d.Power()
				s, e = Open(d)
			}
			if e != api.OK {
				t.Fatalf("Open: error %d", e)
			}
			for _, l := range steps {
				before := show(s.State())
				after, _ := ring.All(s.State(), l)
				if e := s.Commit(l); e == api.OK {
					continue
				}
				d.Power()
				s = opened(t, d)
				switch show(s.State()) {
				case before:
					if e := s.Commit(l); e != api.OK {
						t.Fatalf("again: error %d", e)
					}
				case show(after):
				default:
					t.Fatalf("write %d, %d bytes: %s", write, keep, show(s.State()))
				}
			}
			if s.State().Serial != 2 || len(s.State().Tenants) != 5 {
				t.Fatalf("write %d, %d bytes: %v", write, keep, s.State())
			}
		}
	}
}

func TestNothingIsShared(t *testing.T) {
	d := made(t, 20)
	s := opened(t, d)
	l := tenant("a")
	s.Commit(l)
	l[0].Tenant = "z"
	got := s.State()
	got.Tenants[0].Name, got.Tenants[0].Keys[0].Num = "z", 9
	if s.State().Tenants[0].Name != "a" || s.State().Tenants[0].Keys[0].Num != 1 {
		t.Error("the store shares memory")
	}
}
