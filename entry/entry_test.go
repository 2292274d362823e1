package entry

import (
	"math"
	"math/rand"
	"strings"
	"testing"

	"porter/api"
	"porter/disk"
	"porter/frame"
	"porter/sha"
)

const top = 1 << 40

func made(t *testing.T, blocks int, crashes ...api.Crash) *disk.Disk {
	t.Helper()
	d, e := disk.New(blocks, crashes...)
	if e != api.OK {
		t.Fatalf("New: error %d", e)
	}
	return d
}

// text returns n bytes without a pattern.
func text(n int) string {
	out := make([]byte, n)
	rand.New(rand.NewSource(int64(n))).Read(out)
	return string(out)
}

func TestMark(t *testing.T) { // 43.1
	for _, c := range []struct {
		gen, index int
		head       bool
		want       int
	}{
		{1, 0, false, 1 << 21}, {1, 0, true, 1<<21 + 1}, {1, 4095, false, 1<<21 + 8190}, {3, 7, true, 3<<21 + 15}, {top, 4095, true, 1<<61 + 8191},
		{0, 0, true, 0}, {-1, 0, true, 0}, {top + 1, 0, true, 0}, {1, -1, true, 0}, {1, 4096, true, 0}, {math.MinInt, 1, false, 0}, {1, math.MaxInt, false, 0},
	} {
		if got := Mark(c.gen, c.index, c.head); got != c.want {
			t.Errorf("Mark(%d, %d, %v) is %d, want %d", c.gen, c.index, c.head, got, c.want)
		}
	}
}

func TestBlocks(t *testing.T) { // 43.1
	for n, want := range map[int]int{0: 1, 1: 1, 102: 1, 103: 2, 212: 2, 213: 3, 322: 3, 323: 4, 65536: 596, 65537: 0, -1: 0, math.MinInt: 0, math.MaxInt: 0} {
		if got := Blocks(n); got != want {
			t.Errorf("Blocks(%d) is %d, want %d", n, got, want)
		}
	}
}

func TestWrite(t *testing.T) { // 43.2
	s := text(300)
	d := made(t, 10)
	if e := Write(d, 2, 5, 3, 9, s); e != api.OK || d.Writes() != 3 {
		t.Fatalf("Write: error %d, %d writes", e, d.Writes())
	}
	for at, want := range map[int]frame.Frame{
		5: {Mark: 5<<21 + 7, Kind: 9, Text: "\x2c\x01\x00\x00" + sha.Sum(s)[:4] + s[:102]}, 6: {Mark: 5<<21 + 8, Text: s[102:212]}, 7: {Mark: 5<<21 + 10, Text: s[212:]},
	} {
		block, _ := d.Read(at)
		if f, ok := frame.Get(block); f != want || !ok {
			t.Errorf("block %d is %v", at, f)
		}
	}
	for _, at := range []int{0, 4, 8, 9} {
		if block, _ := d.Read(at); block != strings.Repeat("\x00", 128) {
			t.Errorf("block %d is written", at)
		}
	}
	// The head is written last.
	for write := range 3 {
		d := made(t, 10, api.Crash{At: write, Keep: 128})
		if e := Write(d, 2, 5, 3, 9, s); e != api.ErrDown || d.Writes() != write+1 {
			t.Errorf("a crash at write %d: error %d", write, e)
		}
		d.Power()
		if block, _ := d.Read(5); (block == strings.Repeat("\x00", 128)) != (write < 2) {
			t.Errorf("after write %d the head is there or missing", write)
		}
		if block, _ := d.Read(6); block == strings.Repeat("\x00", 128) {
			t.Errorf("after write %d the second block is missing", write)
		}
	}
}

func TestWriteRefuses(t *testing.T) { // 43.2
	d := made(t, 4096)
	long := text(65537)
	for i, c := range []struct {
		d                      *disk.Disk
		from, gen, index, kind int
		text                   string
		want                   api.Errno
	}{
		{nil, -1, 0, 0, 0, long, api.ErrNil}, {&disk.Disk{}, 0, 1, 0, 0, "", api.ErrNil}, {d, -1, 1, 0, 0, long, api.ErrArg}, {d, 0, 0, 0, 0, "", api.ErrArg}, {d, 0, top + 1, 0, 0, "", api.ErrArg}, {d, 0, 1, -1, 0, "", api.ErrArg}, {d, 0, 1, 4096, 0, long, api.ErrArg}, {d, 0, 1, 0, -1, "", api.ErrArg}, {d, 0, 1, 0, 256, long, api.ErrArg}, {d, math.MinInt, 1, 0, 0, "", api.ErrArg},
		{d, 0, 1, 0, 0, long, api.ErrLimit}, {d, 4096, 1, 0, 0, long, api.ErrLimit}, {d, 4096, 1, 0, 0, "", api.ErrFull}, {d, 4095, 1, 1, 0, "", api.ErrFull}, {d, math.MaxInt, 1, 4095, 0, "", api.ErrFull}, {d, 4094, 1, 0, 0, text(213), api.ErrFull}, {d, 0, 1, 4095, 0, text(103), api.ErrFull}, {d, 0, 1, 3501, 0, text(65536), api.ErrFull},
		{d, 4094, 1, 0, 255, text(212), api.OK}, {d, 0, top, 4095, 0, text(102), api.OK}, {d, 0, 1, 3500, 0, text(65536), api.OK},
	} {
		writes := c.d.Writes()
		if e := Write(c.d, c.from, c.gen, c.index, c.kind, c.text); e != c.want || e != api.OK && c.d.Writes() != writes {
			t.Errorf("case %d: error %d, want %d", i, e, c.want)
		}
	}
	off := made(t, 4, api.Crash{})
	off.Write(0, strings.Repeat("x", 128))
	for i, want := range map[int]api.Errno{0: api.ErrDown, 9: api.ErrFull, -1: api.ErrArg} {
		if e := Write(off, 0, 1, i, 0, ""); e != want {
			t.Errorf("without power, index %d: error %d, want %d", i, e, want)
		}
	}
}

func TestReadInvertsWrite(t *testing.T) { // 43.3, 43.4
	for _, n := range []int{0, 1, 102, 103, 212, 213, 1000, 65536} {
		for _, c := range [][4]int{{0, 1, 0, 0}, {7, 3, 5, 255}, {40, top, 9, 1}} {
			d := made(t, 700)
			s := text(n)
			if e := Write(d, c[0], c[1], c[2], c[3], s); e != api.OK {
				t.Fatalf("Write of %d bytes: error %d", n, e)
			}
			got, ok := Read(d, c[0], c[1], c[2])
			if !ok || got != (Entry{Kind: c[3], Text: s, Blocks: Blocks(n)}) {
				t.Errorf("Read of %d bytes: %d bytes, %v", n, len(got.Text), ok)
			}
			for _, other := range [][3]int{{c[0] + 1, c[1], c[2]}, {c[0], c[1] + 1, c[2]}, {c[0], c[1] - 1, c[2]}, {c[0], c[1], c[2] + 1}, {c[0] - 1, c[1], c[2] + 1}, {c[0] + 1, c[1], c[2] - 1}} {
				if got, ok := Read(d, other[0], other[1], other[2]); ok || got != (Entry{}) {
					t.Errorf("an entry elsewhere: %v", other)
				}
			}
		}
	}
}

// head returns the block of a head.
func head(t *testing.T, mark, kind int, size int, sum, text string) string {
	t.Helper()
	block, e := frame.Put(frame.Frame{Mark: mark, Kind: kind, Text: string([]byte{byte(size), byte(size >> 8), byte(size >> 16), byte(size >> 24)}) + sum + text})
	if e != api.OK {
		t.Fatalf("Put: error %d", e)
	}
	return block
}

func TestReadRefuses(t *testing.T) { // 43.3
	s := text(300)
	sum := sha.Sum(s)[:4]
	mark := Mark(2, 0, true)
	write := func(changes map[int]string) *disk.Disk {
		d := made(t, 3)
		Write(d, 0, 2, 0, 1, s)
		for at, block := range changes {
			d.Write(at, block)
		}
		return d
	}
	body := func(mark, kind int, text string) string {
		block, _ := frame.Put(frame.Frame{Mark: mark, Kind: kind, Text: text})
		return block
	}
	if got, ok := Read(write(map[int]string{0: head(t, mark, 1, 300, sum, s[:102])}), 0, 2, 0); !ok || got.Text != s {
		t.Fatal("the rebuilt head is refused")
	}
	for i, changes := range []map[int]string{
		{0: head(t, mark+1, 1, 300, sum, s[:102])}, {0: head(t, mark-1, 1, 300, sum, s[:102])}, {0: head(t, mark, 1, 300, "\x00\x00\x00\x00", s[:102])}, {0: head(t, mark, 1, 299, sum, s[:102])}, {0: head(t, mark, 1, 301, sum, s[:102])}, {0: head(t, mark, 1, 300, sum, s[:101])}, {0: head(t, mark, 1, 300+65536, sum, s[:102])}, {0: head(t, mark, 1, 1<<31, sum, s[:102])}, {0: head(t, mark, 1, 102, sum, s[:102])}, {0: head(t, mark, 1, 2, sha.Sum("ab")[:4], "abc")}, {0: head(t, mark, 1, 4, sha.Sum("abc")[:4], "abc")},
		{0: body(mark, 1, "")}, {0: body(mark, 1, "\x00\x00\x00\x00"+sum[:3])}, {1: body(Mark(2, 1, false), 1, s[102:212])}, {1: body(Mark(2, 1, true), 0, s[102:212])}, {1: body(Mark(3, 1, false), 0, s[102:212])}, {1: body(Mark(2, 1, false), 0, s[102:211])}, {1: body(Mark(2, 1, false), 0, s[103:213])}, {2: body(Mark(2, 2, false), 0, s[212:]+"x")}, {2: body(Mark(2, 2, false), 0, s[213:])}, {2: strings.Repeat("\x00", 128)},
		{0: head(t, mark, 1, 323, sum, s[:102])}, {0: strings.Repeat("x", 128)},
	} {
		if got, ok := Read(write(changes), 0, 2, 0); ok || got != (Entry{}) {
			t.Errorf("case %d: there is an entry of %d bytes", i, len(got.Text))
		}
	}
	d := write(nil)
	for _, c := range [][3]int{{-1, 2, 1}, {0, 0, 0}, {0, -1, 0}, {0, top + 1, 0}, {0, 2, -1}, {0, 2, 4096}, {3, 2, 0}, {math.MaxInt, 2, 1}, {math.MinInt, 2, 0}, {0, 2, 3}} {
		if got, ok := Read(d, c[0], c[1], c[2]); ok || got != (Entry{}) {
			t.Errorf("there is an entry at %v", c)
		}
	}
	for _, d := range []*disk.Disk{nil, {}} {
		if got, ok := Read(d, 0, 2, 0); ok || got != (Entry{}) {
			t.Error("a disk that was not made has an entry")
		}
	}
	off := made(t, 3, api.Crash{At: 3})
	Write(off, 0, 2, 0, 1, s)
	off.Write(2, strings.Repeat("x", 128))
	if _, ok := Read(off, 0, 2, 0); ok {
		t.Error("an entry is read without power")
	}
}

// TestNegativeArea: an area begins at a block, even if the index leads to one.
func TestNegativeArea(t *testing.T) { // 43.3
	d := made(t, 3)
	Write(d, 0, 2, 1, 1, "x")
	block, _ := d.Read(1)
	d.Write(0, block)
	if got, ok := Read(d, -1, 2, 1); ok || got != (Entry{}) {
		t.Error("an area begins before the disk")
	}
}

func TestInterruptedWrites(t *testing.T) { // 43.4
	for _, n := range []int{50, 150, 300} {
		s := text(n)
		for write := range Blocks(n) {
			for keep := range 129 {
				d := made(t, 8, api.Crash{At: 7 + write, Keep: keep})
				// What was there before: an older generation, and an interrupted entry of this one.
				Write(d, 0, 2, 0, 1, text(400))
				Write(d, 0, 2, 4, 1, text(201))
				Write(d, 0, 3, 2, 1, "earlier")
				if e := Write(d, 0, 3, 1, 2, s); e != api.ErrDown {
					t.Fatalf("error %d", e)
				}
				d.Power()
				got, ok := Read(d, 0, 3, 1)
				complete := write == Blocks(n)-1 && keep == 128
				if ok && got != (Entry{Kind: 2, Text: s, Blocks: Blocks(n)}) || complete && !ok {
					t.Fatalf("%d bytes, crash at write %d after %d bytes: %v, %v", n, write, keep, got, ok)
				}
				if e := Write(d, 0, 3, 1, 4, "again"); e != api.OK {
					t.Fatalf("error %d", e)
				}
				if got, ok := Read(d, 0, 3, 1); !ok || got.Text != "again" || got.Kind != 4 {
					t.Fatalf("after writing again: %v, %v", got, ok)
				}
			}
		}
	}
}
