package disk

import (
	"math"
	"math/rand"
	"strings"
	"testing"

	"porter/api"
)

func block(b string) string { return strings.Repeat(b, 128) }

func made(t *testing.T, blocks int, crashes ...api.Crash) *Disk {
	t.Helper()
	d, e := New(blocks, crashes...)
	if d == nil || e != api.OK {
		t.Fatalf("New of %d blocks: error %d", blocks, e)
	}
	return d
}

func TestNew(t *testing.T) { // 41.1
	for _, n := range []int{1, 2, 4096} {
		d := made(t, n)
		if d.Blocks() != n || d.Writes() != 0 || d.Down() {
			t.Errorf("a new disk has %d blocks, %d writes, down %v", d.Blocks(), d.Writes(), d.Down())
		}
		for _, at := range []int{0, n - 1} {
			if got, e := d.Read(at); got != block("\x00") || e != api.OK {
				t.Errorf("block %d of a new disk is %q, error %d", at, got, e)
			}
		}
	}
	for _, n := range []int{0, -1, 4097, math.MinInt, math.MaxInt} {
		if d, e := New(n); d != nil || e != api.ErrArg {
			t.Errorf("New of %d blocks: error %d", n, e)
		}
	}
}

func TestWriteAndRead(t *testing.T) { // 41.2, 41.3
	d := made(t, 3)
	if e := d.Write(1, block("a")); e != api.OK || d.Writes() != 1 {
		t.Errorf("Write: error %d, %d writes", e, d.Writes())
	}
	for at, want := range []string{block("\x00"), block("a"), block("\x00")} {
		if got, e := d.Read(at); got != want || e != api.OK {
			t.Errorf("block %d is %q, error %d", at, got, e)
		}
	}
	for _, at := range []int{-1, 3, math.MinInt, math.MaxInt} {
		if e := d.Write(at, block("b")); e != api.ErrArg {
			t.Errorf("Write of block %d: error %d", at, e)
		}
		if got, e := d.Read(at); got != "" || e != api.ErrArg {
			t.Errorf("Read of block %d: error %d", at, e)
		}
	}
	for _, s := range []string{"", block("b")[1:], block("b") + "b"} {
		if e := d.Write(1, s); e != api.ErrArg {
			t.Errorf("Write of %d bytes: error %d", len(s), e)
		}
	}
	if got, _ := d.Read(1); got != block("a") || d.Writes() != 1 {
		t.Error("a refused write is counted or stored")
	}
}

func TestCrash(t *testing.T) { // 41.2, 41.3
	for keep, stored := range map[int]int{math.MinInt: 0, -1: 0, 0: 0, 1: 1, 3: 3, 127: 127, 128: 128, 129: 128, math.MaxInt: 128} {
		d := made(t, 2, api.Crash{At: 1, Keep: keep})
		if e := d.Write(0, block("a")); e != api.OK {
			t.Fatalf("the write before: error %d", e)
		}
		if e := d.Write(5, block("b")); e != api.ErrArg {
			t.Fatalf("a refused write: error %d", e)
		}
		if e := d.Write(0, block("b")); e != api.ErrDown || !d.Down() || d.Writes() != 2 {
			t.Errorf("Keep %d: error %d, down %v, %d writes", keep, e, d.Down(), d.Writes())
		}
		for _, at := range []int{0, 9} {
			if got, e := d.Read(at); got != "" || e != api.ErrDown {
				t.Errorf("Read without power: error %d", e)
			}
			if e := d.Write(at, "short"); e != api.ErrDown || d.Writes() != 2 {
				t.Errorf("Write without power: error %d", e)
			}
		}
		d.Power()
		want := block("b")[:stored] + block("a")[stored:]
		if got, e := d.Read(0); got != want || e != api.OK || d.Down() {
			t.Errorf("Keep %d: the block is %q, error %d", keep, got, e)
		}
		if e := d.Write(0, block("c")); e != api.OK || d.Writes() != 3 {
			t.Errorf("the next write: error %d", e)
		}
	}
}

func TestSeveralCrashes(t *testing.T) { // 41.2
	d := made(t, 1, api.Crash{At: 2, Keep: 5}, api.Crash{At: 0, Keep: 1}, api.Crash{At: 2, Keep: 9}, api.Crash{At: -1, Keep: 7}, api.Crash{At: 1, Keep: 2})
	for _, want := range []string{"a", "bb", "ccccc"} {
		if e := d.Write(0, block(want[:1])); e != api.ErrDown {
			t.Errorf("write %s: error %d", want, e)
		}
		d.Power()
	}
	if got, _ := d.Read(0); got != "ccccc"+block("\x00")[5:] {
		t.Errorf("the block is %q", got)
	}
	if e := d.Write(0, block("d")); e != api.OK {
		t.Errorf("the write after all crashes: error %d", e)
	}
	d.Power()
	if d.Down() {
		t.Error("Power switches off")
	}
}

func TestCopy(t *testing.T) { // 41.3
	d := made(t, 2, api.Crash{At: 1, Keep: 1}, api.Crash{At: 3, Keep: 2})
	d.Write(0, block("a"))
	c := d.Copy()
	if e := c.Write(0, block("b")); e != api.ErrDown || d.Down() || d.Writes() != 1 {
		t.Errorf("a copy has no crash, or is not independent: error %d", e)
	}
	if got, _ := d.Read(0); got != block("a") {
		t.Error("writing a copy changes the original")
	}
	off := c.Copy()
	if !off.Down() || off.Writes() != 2 || off.Blocks() != 2 {
		t.Error("a copy has another state")
	}
	off.Power()
	if got, _ := off.Read(0); got != "b"+block("a")[1:] || !c.Down() {
		t.Error("switching a copy on is not independent")
	}
	if e := off.Write(0, block("c")); e != api.OK {
		t.Errorf("write 2 of a copy: error %d", e)
	}
	if e := off.Write(0, block("c")); e != api.ErrDown {
		t.Errorf("write 3 of a copy: error %d", e)
	}
}

func TestDisksThatNewDidNotMake(t *testing.T) { // 41.2, 41.3
	for _, d := range []*Disk{nil, {}} {
		d.Power()
		got, e := d.Read(0)
		if got != "" || e != api.ErrNil || d.Write(0, block("a")) != api.ErrNil || d.Write(-1, "") != api.ErrNil || d.Down() || d.Blocks() != 0 || d.Writes() != 0 {
			t.Errorf("%v does something", d)
		}
	}
	var none *Disk
	if none.Copy() != nil {
		t.Error("a copy of nil is not nil")
	}
	zero := (&Disk{}).Copy()
	if _, e := zero.Read(0); zero == nil || e != api.ErrNil {
		t.Error("a copy of a zero disk is no zero disk")
	}
}

func TestProperties(t *testing.T) { // 41.4
	r := rand.New(rand.NewSource(41))
	for range 200 {
		var crashes []api.Crash
		for range r.Intn(5) {
			crashes = append(crashes, api.Crash{At: r.Intn(20), Keep: r.Intn(130)})
		}
		d := made(t, 4, crashes...)
		want := []string{block("\x00"), block("\x00"), block("\x00"), block("\x00")}
		for range 20 {
			at, s := r.Intn(4), block(string(rune('a'+r.Intn(26))))
			switch e := d.Write(at, s); e {
			case api.OK:
				want[at] = s
			case api.ErrDown:
				d.Power()
				got, _ := d.Read(at)
				n := 0
				for n < 128 && got[n] == s[n] {
					n++
				}
				if got[n:] != want[at][n:] {
					t.Fatalf("an interrupted write leaves %q", got)
				}
				want[at] = got
			}
			for i, s := range want {
				if got, _ := d.Read(i); got != s {
					t.Fatalf("block %d is %q, want %q", i, got, s)
				}
			}
		}
	}
}
