package stream

import (
	"math"
	"strings"
	"testing"

	"porter/hmac"
)

func TestBlock(t *testing.T) { // 5.1
	for i, number := range map[int]string{
		0:             "\x00\x00\x00\x00\x00\x00\x00\x00",
		1:             "\x00\x00\x00\x00\x00\x00\x00\x01",
		258:           "\x00\x00\x00\x00\x00\x00\x01\x02",
		math.MaxInt:   "\x7f\xff\xff\xff\xff\xff\xff\xff",
		1<<40 + 1<<32: "\x00\x00\x01\x01\x00\x00\x00\x00",
	} {
		if Block("key", "nonce", i) != hmac.Parts("key", "stream", "nonce", number) {
			t.Errorf("Block %d is wrong", i)
		}
	}
	for _, i := range []int{-1, math.MinInt} {
		if got := Block("key", "nonce", i); got != "" {
			t.Errorf("Block %d is %q", i, got)
		}
	}
	if Block("key", "a", 0) == Block("key", "b", 0) || Block("key", "a", 0) == Block("kez", "a", 0) {
		t.Error("Block does not depend on key and nonce")
	}
}

func TestTake(t *testing.T) { // 5.1, 5.3
	all := ""
	for i := range 2049 {
		all += Block("k", "n", i)
	}
	for _, c := range [][2]int{{math.MinInt, 0}, {-1, 0}, {0, 0}, {1, 1}, {3, 3}, {31, 31}, {32, 32}, {33, 33}, {64, 64}, {1000, 1000}, {65535, 65535}, {65536, 65536}, {65537, 65536}, {math.MaxInt, 65536}} {
		if got := Take("k", "n", c[0]); got != all[:c[1]] {
			t.Errorf("Take of %d has %d bytes, or wrong ones", c[0], len(got))
		}
	}
}

func TestMix(t *testing.T) { // 5.2, 5.3
	for _, n := range []int{0, 1, 31, 32, 33, 500, 65536} {
		text := strings.Repeat("ab\xff", n)[:n]
		hidden := Mix("k", "n", text)
		if len(hidden) != n || Mix("k", "n", hidden) != text {
			t.Errorf("Mix of %d bytes is not its own inverse", n)
		}
		keys := Take("k", "n", n)
		for i := range n {
			if hidden[i] != text[i]^keys[i] {
				t.Errorf("byte %d of %d is wrong", i, n)
			}
		}
	}
	if Mix("k", "n", strings.Repeat("a", 65537)) != "" {
		t.Error("a text of 65537 bytes is mixed")
	}
}
