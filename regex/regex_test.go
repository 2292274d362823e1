package regex

import (
	"math/rand"
	"strings"
	"testing"

	"porter/api"
	"porter/charset"
)

type node = api.Node

func bytes(s string) node   { return one(charset.Texts(s)) }
func cat(kids ...node) node { return node{Kind: api.Cat, Kids: kids} }
func alt(kids ...node) node { return node{Kind: api.Alt, Kids: kids} }
func rep(kid node, low, high int) node {
	return node{Kind: api.Rep, Kids: []node{kid}, Min: low, Max: high}
}
func set(lo, hi byte) node                 { return one(charset.Of(lo, hi)) }
func not(n node) node                      { return one(charset.Not(n.Set)) }
func fault(e api.Errno, at int) api.Fault  { return api.Fault{E: e, At: at} }
func repeat(s string, n int) string        { return strings.Repeat(s, n) }
func nested(n int, inner string) string    { return repeat("(", n) + inner + repeat(")", n) }
func with(n node, change func(*node)) node { change(&n); return n }

var word = bytes("0123456789ABCDEFGHIJKLMNOPQRSTUVWXYZ_abcdefghijklmnopqrstuvwxyz")

func TestRight(t *testing.T) { // 13.1
	a, b := bytes("a"), bytes("b")
	for i, n := range []node{
		a, one(api.Set{}), set(0, 255), cat(), cat(a, b), cat(a, alt(a, b)), cat(rep(a, 0, -1), b), alt(a, b), alt(cat(), cat()), alt(a, cat(a, b)),
		rep(a, 0, -1), rep(a, 16, -1), rep(a, 0, 1), rep(a, 0, 16), rep(a, 16, 16), rep(cat(), 1, 1), rep(rep(a, 0, 1), 0, 1), rep(alt(a, b), 2, 3), rep(cat(a, b), 2, 3),
		with(a, func(n *node) { n.Kids = []node{} }),
	} {
		if !Right(n) {
			t.Errorf("valid tree %d is refused", i)
		}
	}
	for i, n := range []node{
		{}, {Kind: 5}, {Kind: -1}, cat(a), alt(), alt(a), cat(a, cat()), cat(cat(a, b), a), alt(a, alt(a, b)),
		rep(a, 0, 0), rep(a, 0, -2), rep(a, -1, 1), rep(a, 17, -1), rep(a, 0, 17), rep(a, 2, 1), rep(a, 17, 17), {Kind: api.Rep, Max: 1}, {Kind: api.Rep, Max: 1, Kids: []node{a, b}},
		with(a, func(n *node) { n.Kids = []node{b} }), with(a, func(n *node) { n.Min = 1 }), with(a, func(n *node) { n.Max = -1 }),
		with(cat(), func(n *node) { n.Set[3] = 1 }), with(cat(), func(n *node) { n.Min = 1 }), with(alt(a, b), func(n *node) { n.Max = 1 }), with(alt(a, b), func(n *node) { n.Set = a.Set }),
		with(rep(a, 0, 1), func(n *node) { n.Set = a.Set }), rep(cat(a), 0, 1), alt(a, rep(node{}, 0, 1)), cat(a, b, alt(a)),
	} {
		if Right(n) {
			t.Errorf("invalid tree %d is accepted", i)
		}
	}
}

func TestSameAndSize(t *testing.T) { // 13.1
	a, b := bytes("a"), bytes("b")
	trees := []node{{}, a, b, one(api.Set{}), cat(), cat(a), cat(a, b), cat(b, a), alt(a, b), alt(a, b, a), rep(a, 0, 1), rep(a, 0, 2), rep(a, 1, 2), rep(b, 0, 1), rep(rep(a, 0, 1), 0, 1), {Kind: 9}}
	sizes := []int{1, 1, 1, 1, 1, 2, 3, 3, 3, 4, 2, 2, 2, 2, 3, 1}
	for i, n := range trees {
		if Size(n) != sizes[i] {
			t.Errorf("Size of tree %d is %d", i, Size(n))
		}
		for k, m := range trees {
			if Same(n, m) != (i == k) {
				t.Errorf("Same of trees %d and %d is %v", i, k, Same(n, m))
			}
		}
	}
	if !Same(cat(), with(cat(), func(n *node) { n.Kids = []node{} })) {
		t.Error("no kids and an empty list of kids differ")
	}
}

func TestParse(t *testing.T) { // 13.2
	a, b, c := bytes("a"), bytes("b"), bytes("c")
	for _, x := range []struct {
		s    string
		want node
	}{
		{"", cat()}, {"a", a}, {"ab", cat(a, b)}, {"a|b*", alt(a, rep(b, 0, -1))}, {"(a)(bc)", cat(a, b, c)}, {"|", alt(cat(), cat())}, {"a|", alt(a, cat())}, {"|a|", alt(cat(), a, cat())},
		{"()", cat()}, {"()()", cat()}, {"a()", a}, {"()a()b", cat(a, b)}, {"(a|b)", alt(a, b)}, {"(a|b)|c", alt(a, b, c)}, {"a|(b|c)", alt(a, b, c)}, {"a(b|c)", cat(a, alt(b, c))}, {"(a|b)c|a", alt(cat(alt(a, b), c), a)},
		{"((a)|(b))", alt(a, b)}, {"(a(b(c)))", cat(a, b, c)}, {"(ab)*", rep(cat(a, b), 0, -1)}, {"()*", rep(cat(), 0, -1)}, {"(a*)*", rep(rep(a, 0, -1), 0, -1)}, {"ab*", cat(a, rep(b, 0, -1))},
		{"a*", rep(a, 0, -1)}, {"a+", rep(a, 1, -1)}, {"a?", rep(a, 0, 1)}, {"a{1}", rep(a, 1, 1)}, {"a{16}", rep(a, 16, 16)}, {"a{0,}", rep(a, 0, -1)}, {"a{16,}", rep(a, 16, -1)}, {"a{0,1}", rep(a, 0, 1)}, {"a{2,2}", rep(a, 2, 2)}, {"a{3,16}", rep(a, 3, 16)}, {"a{10,12}b", cat(rep(a, 10, 12), b)},
		{".", set(0, 255)}, {`\.\\\[\]\(\)\{\}\|\*\+\?\-\^`, cat(bytes("."), bytes(`\`), bytes("["), bytes("]"), bytes("("), bytes(")"), bytes("{"), bytes("}"), bytes("|"), bytes("*"), bytes("+"), bytes("?"), bytes("-"), bytes("^"))},
		{`\x41\x0a\xff`, cat(bytes("A"), bytes("\n"), bytes("\xff"))}, {`\d`, set('0', '9')}, {`\w`, word}, {"-^$, \xff\n\"", cat(bytes("-"), bytes("^"), bytes("$"), bytes(","), bytes(" "), bytes("\xff"), bytes("\n"), bytes("\""))},
		{"[a]", a}, {"[abc]", set('a', 'c')}, {"[a-c]", set('a', 'c')}, {"[a-a]", a}, {"[^a]", not(a)}, {"[^a-cx]", not(bytes("abcx"))}, {`[\d_a]`, bytes("0123456789_a")}, {`[\w-]`, node{}}, {`[\w-z]`, node{}}, {`[\d-9]`, node{}}, {`[\w\-]`, one(charset.Or(word.Set, bytes("-").Set))},
		{`[\d\w]`, word}, {`[^\x00-\xff]`, one(api.Set{})}, {`[\x61-\x63]`, set('a', 'c')}, {`[.*+?(){}|$,]`, bytes(".*+?(){}|$,")}, {`[\[\]\-\^\\]`, bytes(`[]-^\`)}, {`[\--\.]`, set('-', '.')}, {"[\x80-\xff]", set(128, 255)}, {`[a-c-e]`, node{}}, {`[a-cb-d]`, set('a', 'd')},
	} {
		n, f := Parse(x.s)
		if x.want.Kind == 0 {
			if f.E != api.ErrForm || !Same(n, node{}) {
				t.Errorf("Parse(%q) is not refused", x.s)
			}
			continue
		}
		if f != (api.Fault{}) || !Same(n, x.want) {
			t.Errorf("Parse(%q) = %v, %v, want %v", x.s, n, f, x.want)
		}
	}
	if n, f := Parse(repeat("a", 256)); f != (api.Fault{}) || len(n.Kids) != 256 {
		t.Errorf("256 bytes: %v", f)
	}
	if n, f := Parse(nested(16, "a") + nested(16, "b")); f != (api.Fault{}) || !Same(n, cat(a, b)) {
		t.Errorf("16 parentheses: %v", f)
	}
}

func TestParseRefuses(t *testing.T) { // 13.2
	for _, x := range []struct {
		s    string
		want api.Fault
	}{
		{repeat("a", 257), fault(api.ErrLimit, 256)}, {repeat(")", 300), fault(api.ErrLimit, 256)},
		{nested(17, "a"), fault(api.ErrLimit, 16)}, {"a|" + nested(17, ""), fault(api.ErrLimit, 18)}, {repeat("(", 17), fault(api.ErrLimit, 16)}, {repeat("(", 16), fault(api.ErrEnd, 16)},
		{")", fault(api.ErrForm, 0)}, {"a)", fault(api.ErrForm, 1)}, {"(a))", fault(api.ErrForm, 3)}, {"(", fault(api.ErrEnd, 1)}, {"(a|", fault(api.ErrEnd, 3)}, {"(a", fault(api.ErrEnd, 2)},
		{"*", fault(api.ErrForm, 0)}, {"+a", fault(api.ErrForm, 0)}, {"a|?", fault(api.ErrForm, 2)}, {"(*)", fault(api.ErrForm, 1)}, {"a**", fault(api.ErrForm, 2)}, {"a+?", fault(api.ErrForm, 2)}, {"a{1}{1}", fault(api.ErrForm, 4)}, {"{1}", fault(api.ErrForm, 0)}, {"a}", fault(api.ErrForm, 1)}, {"]", fault(api.ErrForm, 0)}, {"a]", fault(api.ErrForm, 1)},
		{"a{", fault(api.ErrEnd, 2)}, {"a{1", fault(api.ErrEnd, 3)}, {"a{1,", fault(api.ErrEnd, 4)}, {"a{1,2", fault(api.ErrEnd, 5)}, {"a{}", fault(api.ErrForm, 2)}, {"a{,2}", fault(api.ErrForm, 2)}, {"a{x}", fault(api.ErrForm, 2)}, {"a{1x}", fault(api.ErrForm, 3)}, {"a{1,x}", fault(api.ErrForm, 4)}, {"a{1,2,3}", fault(api.ErrForm, 5)}, {"a{1 }", fault(api.ErrForm, 3)}, {"a{-1}", fault(api.ErrForm, 2)},
		{"a{01}", fault(api.ErrForm, 2)}, {"a{00}", fault(api.ErrForm, 2)}, {"a{099", fault(api.ErrForm, 2)}, {"a{1,02}", fault(api.ErrForm, 4)}, {"a{17}", fault(api.ErrLimit, 2)}, {"a{17", fault(api.ErrLimit, 2)}, {"a{1,17}", fault(api.ErrLimit, 4)}, {"a{17,1}", fault(api.ErrLimit, 2)}, {"a{" + repeat("9", 100) + "}", fault(api.ErrLimit, 2)},
		{"a{0}", fault(api.ErrForm, 2)}, {"a{0,0}", fault(api.ErrForm, 4)}, {"a{3,2}", fault(api.ErrForm, 4)}, {"a{16,15}", fault(api.ErrForm, 5)}, {"a{3,2x", fault(api.ErrForm, 4)}, {"a{0x", fault(api.ErrForm, 2)},
		{"[", fault(api.ErrEnd, 1)}, {"[^", fault(api.ErrEnd, 2)}, {"[a", fault(api.ErrEnd, 2)}, {"[a-", fault(api.ErrEnd, 3)}, {"[a-b", fault(api.ErrEnd, 4)}, {"[]", fault(api.ErrForm, 1)}, {"[^]", fault(api.ErrForm, 2)}, {"[]a]", fault(api.ErrForm, 1)}, {"[^^]", fault(api.ErrForm, 2)}, {"[a^]", fault(api.ErrForm, 2)}, {"[[]", fault(api.ErrForm, 1)}, {"[a[", fault(api.ErrForm, 2)}, {"[-a]", fault(api.ErrForm, 1)}, {"[a-]", fault(api.ErrForm, 3)}, {"[a--]", fault(api.ErrForm, 3)}, {"[a-c-e]", fault(api.ErrForm, 4)},
		{"[b-a]", fault(api.ErrForm, 3)}, {`[b-\x61]`, fault(api.ErrForm, 3)}, {`[a-\d]`, fault(api.ErrForm, 3)}, {`[a-\w]`, fault(api.ErrForm, 3)}, {`[\d-z]`, fault(api.ErrForm, 3)}, {`[\x62-a]`, fault(api.ErrForm, 6)}, {`[\+-\*]`, fault(api.ErrForm, 4)},
		{`\`, fault(api.ErrEnd, 1)}, {`a\x`, fault(api.ErrEnd, 3)}, {`a\x4`, fault(api.ErrEnd, 4)}, {`\x4g`, fault(api.ErrForm, 0)}, {`a\xg`, fault(api.ErrForm, 1)}, {`\x4A`, fault(api.ErrForm, 0)}, {`\q`, fault(api.ErrForm, 0)}, {`a\n`, fault(api.ErrForm, 1)}, {`\D`, fault(api.ErrForm, 0)}, {"\\\xff", fault(api.ErrForm, 0)}, {`\ `, fault(api.ErrForm, 0)},
		{`[\`, fault(api.ErrEnd, 2)}, {`[\x4`, fault(api.ErrEnd, 4)}, {`[\q]`, fault(api.ErrForm, 1)}, {`[a-\q]`, fault(api.ErrForm, 3)}, {`[a-\`, fault(api.ErrEnd, 4)}, {`[a-\x6`, fault(api.ErrEnd, 6)}, {`[a\x4]`, fault(api.ErrForm, 2)},
	} {
		if n, f := Parse(x.s); f != x.want || !Same(n, node{}) {
			t.Errorf("Parse(%.40q) = %v, %v, want %v", x.s, n, f, x.want)
		}
	}
}

// randomPattern strings together parts, which mostly makes a pattern.
func randomPattern(r *rand.Rand) string {
	parts := []string{"a", "b", "|", "(", ")", "(", ")", "*", "?", "{1,2}", "{0,}", "{3}", "{", ",", "}", "1", "17", "0", "[", "]", "[^a-c]", "-", `\d`, `\w`, `\x4`, `\`, "."}
	s := ""
	for range r.Intn(10) {
		s += parts[r.Intn(len(parts))]
	}
	return s
}

func TestProperties(t *testing.T) { // 13.2, 13.3
	r := rand.New(rand.NewSource(13))
	parsed := 0
	for range 40000 {
		s := randomPattern(r)
		n, f := Parse(s)
		if f.E == api.OK {
			parsed++
			if again, f := Parse("(" + s + ")"); !Right(n) || !Same(n, again) || f != (api.Fault{}) {
				t.Fatalf("Parse(%q) = %v; in parentheses %v, %v", s, n, again, f)
			}
			continue
		}
		// Up to the place of the fault nothing else is wrong.
		if _, before := Parse(s[:f.At]); before.E != api.OK && before != fault(api.ErrEnd, f.At) {
			t.Fatalf("Parse(%q) fails with %v, but its beginning with %v", s, f, before)
		}
		if f.E == api.ErrEnd && f.At != len(s) {
			t.Fatalf("Parse(%q) ends at %d", s, f.At)
		}
	}
	if parsed < 1000 {
		t.Errorf("only %d patterns", parsed)
	}
}
