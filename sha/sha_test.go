package sha

import (
	"crypto/sha256"
	"encoding/hex"
	"math/big"
	"math/rand"
	"strings"
	"testing"
)

// text returns n bytes without a pattern, the same ones every time.
func text(n int) string {
	out := make([]byte, n)
	rand.New(rand.NewSource(int64(n))).Read(out)
	return string(out)
}

func library(s string) string {
	sum := sha256.Sum256([]byte(s))
	return string(sum[:])
}

func TestConstants(t *testing.T) { // 3.1: K by its definition
	prime := func(n int) bool {
		for d := 2; d*d <= n; d++ {
			if n%d == 0 {
				return false
			}
		}
		return true
	}
	at := 0
	for p := 2; p <= 311; p++ {
		if !prime(p) {
			continue
		}
		limit := new(big.Int).Lsh(big.NewInt(int64(p)), 96)
		k := new(big.Int)
		for bit := 40; bit >= 0; bit-- {
			k.SetBit(k, bit, 1)
			if new(big.Int).Exp(k, big.NewInt(3), nil).Cmp(limit) > 0 {
				k.SetBit(k, bit, 0)
			}
		}
		if constants[at] != uint32(k.Uint64()) {
			t.Errorf("constant %d is %08x, want %08x", at, constants[at], uint32(k.Uint64()))
		}
		at++
	}
	if at != len(constants) {
		t.Errorf("%d primes for %d constants", at, len(constants))
	}
}

func TestSum(t *testing.T) { // 3.1
	for s, want := range map[string]string{
		"":    "e3b0c44298fc1c149afbf4c8996fb92427ae41e4649b934ca495991b7852b855",
		"abc": "ba7816bf8f01cfea414140de5dae2223b00361a396177a9cb410ff61f20015ad",
	} {
		if got := hex.EncodeToString([]byte(Sum(s))); got != want {
			t.Errorf("Sum(%q) = %s", s, got)
		}
	}
	for n := range 300 {
		if Sum(text(n)) != library(text(n)) {
			t.Errorf("Sum of %d bytes is wrong", n)
		}
	}
	if long := text(200001); Sum(long) != library(long) {
		t.Error("Sum of a long text is wrong")
	}
}

func TestFirstAndTell(t *testing.T) { // 3.1
	want := "6a09e667bb67ae853c6ef372a54ff53a510e527f9b05688c1f83d9ab5be0cd19"
	if got := hex.EncodeToString([]byte(Tell(First()))); got != want {
		t.Errorf("Tell(First()) = %s", got)
	}
	if got := Tell(Words{1, 0, 0, 0, 0, 0, 0, 0xff000000}); got != "\x00\x00\x00\x01"+strings.Repeat("\x00", 24)+"\xff\x00\x00\x00" {
		t.Errorf("Tell = %x", got)
	}
}

func TestPad(t *testing.T) { // 3.1, 3.3
	for n := range 200 {
		s := text(n)
		got := Pad(s)
		if len(got)%64 != 0 || !strings.HasPrefix(got, s) {
			t.Fatalf("Pad of %d bytes: %d bytes", n, len(got))
		}
		rest := got[n:]
		if rest[0] != 128 || strings.Trim(rest[1:len(rest)-8], "\x00") != "" || len(rest) > 9+63 {
			t.Errorf("Pad of %d bytes ends with %x", n, rest)
		}
		bits := 0
		for _, b := range []byte(rest[len(rest)-8:]) {
			bits = bits<<8 | int(b)
		}
		if bits != 8*n {
			t.Errorf("Pad of %d bytes says %d bits", n, bits)
		}
	}
	if len(Pad(text(55))) != 64 || len(Pad(text(56))) != 128 {
		t.Error("the number of zero bytes is not the least one")
	}
}

func TestStep(t *testing.T) { // 3.1
	for _, n := range []int{0, 1, 63, 65, 128} {
		if Step(First(), text(n)) != First() {
			t.Errorf("Step changes its words for a block of %d bytes", n)
		}
	}
	if got := Tell(Step(First(), Pad("abc"))); got != library("abc") {
		t.Errorf("Step of the padded abc: %x", got)
	}
}

func TestHash(t *testing.T) { // 3.2
	h := New()
	if h.Sum() != library("") || h.Long() != 0 {
		t.Error("a new hash is not empty")
	}
	h.Add("ab")
	if h.Sum() != library("ab") || h.Long() != 2 {
		t.Error("wrong after ab")
	}
	h.Add("c")
	if h.Sum() != library("abc") || h.Long() != 3 {
		t.Error("nothing may be added after Sum")
	}
	h.Add("")
	if h.Sum() != library("abc") || h.Sum() != library("abc") {
		t.Error("Sum or an empty Add changes the hash")
	}
}

func TestHashesThatNewDidNotMake(t *testing.T) { // 3.2
	for _, h := range []*Hash{nil, {}} {
		h.Add("abc")
		if h.Sum() != library("") || h.Long() != 0 {
			t.Errorf("%v is not like an empty hash", h)
		}
	}
}

func TestDivisionDoesNotMatter(t *testing.T) { // 3.3
	r := rand.New(rand.NewSource(3))
	for range 200 {
		s := text(r.Intn(400))
		h := New()
		for rest := s; rest != ""; {
			n := r.Intn(len(rest) + 1)
			h.Add(rest[:n])
			rest = rest[n:]
		}
		if h.Sum() != library(s) || h.Long() != len(s) {
			t.Fatalf("%d bytes in parts have a different checksum", len(s))
		}
	}
}
