package quote

import (
	"math"
	"math/rand"
	"strings"
	"testing"
	"unicode/utf8"

	"porter/api"
)

func TestText(t *testing.T) { // 10.1
	for _, c := range [][2]string{
		{"", `""`}, {"abc", `"abc"`}, {"\"\xff", `"\"\xff"`}, {`\`, `"\\"`}, {`a"b\c`, `"a\"b\\c"`},
		{"\x00\x1f\x7f\n\t", `"\x00\x1f\x7f\x0a\x09"`}, {" ~", `" ~"`}, {"é", `"é"`}, {"\u0080\u009f", "\"\u0080\u009f\""},
		{"\uFFFD", "\"\uFFFD\""}, {"\xc3", `"\xc3"`}, {"\xc3(", `"\xc3("`}, {"\xe2\x82", `"\xe2\x82"`}, {"\xe2\x82é", `"\xe2\x82é"`},
		{"\xed\xa0\x80", `"\xed\xa0\x80"`}, {"\xc0\x80", `"\xc0\x80"`}, {"\xf4\x90\x80\x80", `"\xf4\x90\x80\x80"`}, {"😀", `"😀"`}, {"\U0010FFFF", "\"\U0010FFFF\""},
	} {
		if got := Text(c[0]); got != c[1] {
			t.Errorf("Text(%q) = %s, want %s", c[0], got, c[1])
		}
	}
}

func TestUnit(t *testing.T) { // 10.1
	s := "aé€😀\xff\uFFFD\xc3"
	for at, want := range []int{1, 2, 1, 3, 1, 1, 4, 1, 1, 1, 1, 3, 1, 1, 1} {
		if got := Unit(s, at); got != want {
			t.Errorf("Unit at %d is %d, want %d", at, got, want)
		}
	}
	for _, at := range []int{-1, len(s), len(s) + 1, math.MinInt, math.MaxInt} {
		if got := Unit(s, at); got != 0 {
			t.Errorf("Unit at %d is %d", at, got)
		}
	}
	if Unit("", 0) != 0 {
		t.Error("the empty string has a unit")
	}
}

func TestRead(t *testing.T) { // 10.2
	for _, c := range []struct {
		s    string
		at   int
		want string
		end  int
	}{
		{`""`, 0, "", 2}, {`"a"b"`, 0, "a", 3}, {`"a"b"`, 2, "b", 5}, {`"\x41"`, 0, "A", 6}, {`"\x22\x5c"`, 0, `"\`, 10},
		{`"\"\\"`, 0, `"\`, 6}, {`"\xc3\xa9"`, 0, "é", 10}, {`"\xff\x00"`, 0, "\xff\x00", 10}, {"\"é\uFFFD\u0080\"", 0, "é\uFFFD\u0080", 9},
		{`xx"y"`, 2, "y", 5}, {"\xff\"a\"\xff", 1, "a", 4}, {`"\\x41"`, 0, `\x41`, 7},
	} {
		if got, end, f := Read(c.s, c.at); got != c.want || end != c.end || f != (api.Fault{}) {
			t.Errorf("Read(%q, %d) = %q, %d, %v", c.s, c.at, got, end, f)
		}
	}
}

func TestReadRefuses(t *testing.T) { // 10.2
	for _, c := range []struct {
		s    string
		at   int
		want api.Fault
	}{
		{`"a"`, -1, api.Fault{E: api.ErrArg}}, {`"a"`, 4, api.Fault{E: api.ErrArg}}, {`"a"`, math.MaxInt, api.Fault{E: api.ErrArg}}, {"", 1, api.Fault{E: api.ErrArg}},
		{"", 0, api.Fault{E: api.ErrEnd, At: 0}}, {`"a"`, 3, api.Fault{E: api.ErrEnd, At: 3}}, {`a"`, 0, api.Fault{E: api.ErrForm, At: 0}}, {`"a"`, 1, api.Fault{E: api.ErrForm, At: 1}},
		{`"`, 0, api.Fault{E: api.ErrEnd, At: 1}}, {`"ab`, 0, api.Fault{E: api.ErrEnd, At: 3}}, {`"a\`, 0, api.Fault{E: api.ErrEnd, At: 3}}, {`"a\"`, 0, api.Fault{E: api.ErrEnd, At: 4}},
		{`"a\x`, 0, api.Fault{E: api.ErrEnd, At: 4}}, {`"a\x4`, 0, api.Fault{E: api.ErrEnd, At: 5}}, {`"a\x41`, 0, api.Fault{E: api.ErrEnd, At: 6}},
		{`"a\n"`, 0, api.Fault{E: api.ErrForm, At: 2}}, {`"a\x4"`, 0, api.Fault{E: api.ErrForm, At: 2}}, {`"a\xg`, 0, api.Fault{E: api.ErrForm, At: 2}}, {`"\x4A"`, 0, api.Fault{E: api.ErrForm, At: 1}},
		{`"\X41"`, 0, api.Fault{E: api.ErrForm, At: 1}}, {`"\u0041"`, 0, api.Fault{E: api.ErrForm, At: 1}}, {"\"\\\xff\"", 0, api.Fault{E: api.ErrForm, At: 1}},
		{"\"a\n\"", 0, api.Fault{E: api.ErrForm, At: 2}}, {"\"\x00", 0, api.Fault{E: api.ErrForm, At: 1}}, {"\"\x1f", 0, api.Fault{E: api.ErrForm, At: 1}}, {"\"\x7f\"", 0, api.Fault{E: api.ErrForm, At: 1}},
		{"\"é\xff\"", 0, api.Fault{E: api.ErrForm, At: 3}}, {"\"\xc3", 0, api.Fault{E: api.ErrForm, At: 1}}, {"\"\xed\xa0\x80\"", 0, api.Fault{E: api.ErrForm, At: 1}}, {"x\"\xe2\x82\"", 1, api.Fault{E: api.ErrForm, At: 2}},
		{"\"\n\\q", 0, api.Fault{E: api.ErrForm, At: 1}}, {"\"\\q\n", 0, api.Fault{E: api.ErrForm, At: 1}},
	} {
		if got, end, f := Read(c.s, c.at); got != "" || end != 0 || f != c.want {
			t.Errorf("Read(%q, %d) = %q, %d, %v, want %v", c.s, c.at, got, end, f, c.want)
		}
	}
}

func TestReadInvertsText(t *testing.T) { // 10.3
	r := rand.New(rand.NewSource(10))
	parts := []string{"a", "\"", "\\", "x", "4", "\x00", "\x7f", "é", "\xff", "\xc3", "\xa9", "\uFFFD", "😀", "\xf0\x9f", "\n", " "}
	for range 3000 {
		s, before, after := "", "", ""
		for range r.Intn(8) {
			s += parts[r.Intn(len(parts))]
		}
		for range r.Intn(3) {
			before += parts[r.Intn(len(parts))]
			after += parts[r.Intn(len(parts))]
		}
		text := Text(s)
		if got, end, f := Read(before+text+after, len(before)); got != s || end != len(before+text) || f != (api.Fault{}) {
			t.Fatalf("Read of Text(%q) between %q and %q = %q, %d, %v", s, before, after, got, end, f)
		}
		control := func(c rune) bool { return c < 0x20 || c == 0x7f }
		if !utf8.ValidString(text) || strings.ContainsFunc(text, control) {
			t.Fatalf("Text(%q) = %q", s, text)
		}
	}
}
