package name

import (
	"math"
	"slices"
	"strings"
	"testing"
)

var long = strings.Repeat("a", 32)

func TestLabelAndWord(t *testing.T) { // 9.1
	for _, c := range []struct {
		s           string
		label, word bool
	}{
		{"", false, false}, {"a", true, true}, {"z", true, true}, {"A", true, false}, {"Z", true, false}, {"_", true, false}, {"__name__", true, false},
		{"a_1", true, false}, {"a-1", false, true}, {"-a", false, false}, {"a-", false, true}, {"a9", true, true}, {"9", false, false}, {"0a", false, false},
		{"aB", true, false}, {"a b", false, false}, {"a ", false, false}, {" a", false, false}, {"a\n", false, false},
		{"é", false, false}, {"aé", false, false}, {"a\xff", false, false}, {"\xff", false, false}, {"a\x00", false, false}, {"ａ", false, false},
		{long, true, true}, {long + "a", false, false}, {strings.Repeat("é", 16), false, false},
		{"a/", false, false}, {"a:", false, false}, {"a@", false, false}, {"a[", false, false}, {"a`", false, false}, {"a{", false, false},
	} {
		if Label(c.s) != c.label || Word(c.s) != c.word {
			t.Errorf("%q: label %v, word %v", c.s, Label(c.s), Word(c.s))
		}
	}
}

func TestEveryCharacter(t *testing.T) { // 9.1
	const first, more = "abcdefghijklmnopqrstuvwxyz", "0123456789"
	upper := strings.ToUpper(first)
	for b := range 256 {
		c := string([]byte{byte(b)})
		for _, x := range []struct {
			what      string
			got, want bool
		}{
			{"first of a label name", Label(c), strings.Contains(first+upper+"_", c)},
			{"second of a label name", Label("a" + c), strings.Contains(first+upper+"_"+more, c)},
			{"first of a word", Word(c), strings.Contains(first, c)},
			{"second of a word", Word("a" + c), strings.Contains(first+more+"-", c)},
		} {
			if x.got != x.want {
				t.Errorf("byte %d as %s: %v", b, x.what, x.got)
			}
		}
	}
}

func TestCut(t *testing.T) { // 9.2
	for _, c := range []struct {
		s    string
		at   int
		want string
		end  int
	}{
		{"ab=1", 0, "ab", 2}, {"ab=1", 1, "b", 2}, {"ab=1", 2, "", 2}, {"ab=1", 3, "", 3}, {"ab=1", 4, "", 4},
		{"ab=1", 5, "", 0}, {"ab=1", -1, "", 0}, {"ab=1", math.MinInt, "", 0}, {"ab=1", math.MaxInt, "", 0},
		{"a1", 0, "a1", 2}, {"1a", 0, "", 0}, {"1a", 1, "a", 2}, {"", 0, "", 0}, {"a-b", 0, "a", 1}, {"a-b-c", 0, "a", 1}, {"a b=", 2, "b", 3}, {"aéb", 0, "a", 1}, {"a\xffb", 0, "a", 1},
		{long + long + "!", 1, (long + long)[1:], 64}, {"é", 1, "", 1},
	} {
		if got, end := Cut(c.s, c.at); got != c.want || end != c.end {
			t.Errorf("Cut(%q, %d) = %q, %d", c.s, c.at, got, end)
		}
	}
}

func TestCutIsComplete(t *testing.T) { // 9.4
	for _, label := range []string{"a", "_", "a_1", long} {
		for _, next := range []string{"", "=", " ", "-", "é", "\xff", "{"} {
			if got, end := Cut("{"+label+next, 1); got != label || end != 1+len(label) {
				t.Errorf("Cut of %q before %q = %q, %d", label, next, got, end)
			}
		}
	}
}

func TestWords(t *testing.T) { // 9.3
	for _, c := range []struct {
		s    string
		want []string
	}{
		{"a", []string{"a"}}, {"a b", []string{"a", "b"}}, {"b a b", []string{"b", "a", "b"}}, {long + " x-1", []string{long, "x-1"}},
	} {
		if got, ok := Words(c.s); !ok || !slices.Equal(got, c.want) {
			t.Errorf("Words(%q) = %q, %v", c.s, got, ok)
		}
	}
	for _, s := range []string{"", " ", "a  b", " a", "a ", "a B", "a\tb", "a\nb", "a 1", "a b ", long + "a", "a é", "a\xff"} {
		if got, ok := Words(s); ok || len(got) != 0 {
			t.Errorf("Words(%q) = %q, %v", s, got, ok)
		}
	}
}

func TestJoin(t *testing.T) { // 9.3
	for _, c := range []struct {
		l    []string
		want string
	}{
		{nil, ""}, {[]string{""}, ""}, {[]string{"a"}, "a"}, {[]string{"a", "b"}, "a b"}, {[]string{"", ""}, " "}, {[]string{"A b", "\xff"}, "A b \xff"},
	} {
		if got := Join(c.l); got != c.want {
			t.Errorf("Join(%q) = %q", c.l, got)
		}
	}
}

func TestWordsInvertsJoin(t *testing.T) { // 9.4
	for _, l := range [][]string{{"a"}, {"a", "a"}, {"query", "series", "x-1"}, {long, long}} {
		if got, ok := Words(Join(l)); !ok || !slices.Equal(got, l) {
			t.Errorf("Words(Join(%q)) = %q, %v", l, got, ok)
		}
	}
}
