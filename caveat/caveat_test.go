package caveat

import (
	"fmt"
	"slices"
	"strings"
	"testing"

	"porter/api"
)

func words(kind int, l ...string) api.Caveat    { return api.Caveat{Kind: kind, Words: l} }
func num(kind, n int) api.Caveat                { return api.Caveat{Kind: kind, Num: n} }
func match(l ...api.Matcher) api.Caveat         { return api.Caveat{Kind: api.CMatch, Sel: l} }
func of(n string, op int, v string) api.Matcher { return api.Matcher{Name: n, Op: op, Value: v} }

func same(a, b api.Caveat) bool {
	return a.Kind == b.Kind && a.Num == b.Num && slices.Equal(a.Words, b.Words) && slices.Equal(a.Sel, b.Sel)
}

// many returns n distinct words.
func many(n int) []string {
	var l []string
	for i := range n {
		l = append(l, fmt.Sprintf("w%d", i))
	}
	return l
}

var word32 = strings.Repeat("w", 32)

// fits is the length of a second value with which a text has just 2048 bytes.
const fits = api.MaxText - len(`match {a="", b=""}`) - 1024

// valid are valid caveats with their texts.
func valid() map[string]api.Caveat {
	fill := strings.Repeat("v", fits)
	return map[string]api.Caveat{
		"tenant acme": words(api.CTenant, "acme"), "tenant " + word32: words(api.CTenant, word32), "endpoint query series": words(api.CPath, "query", "series"), "endpoint series query": words(api.CPath, "series", "query"), "endpoint a": words(api.CPath, "a"),
		"endpoint " + strings.Join(many(16), " "): words(api.CPath, many(16)...), "class gold": words(api.CClass, "gold"), "class " + strings.Join(many(16), " "): words(api.CClass, many(16)...),
		"do query": words(api.CDo, "query"), "do write": words(api.CDo, "write"), "do query write": words(api.CDo, "query", "write"), "do write query": words(api.CDo, "write", "query"),
		"before 120": num(api.CBefore, 120), "before 0": num(api.CBefore, 0), "before 1099511627776": num(api.CBefore, 1<<40), "after 0": num(api.CAfter, 0), "after 1099511627776": num(api.CAfter, 1<<40), "after 7": num(api.CAfter, 7),
		`match {env="prod"}`: match(of("env", api.Is, "prod")), "match {}": match(), `match {b=~"x|y", a!="\xff", b=~"x|y"}`: match(of("b", api.Like, "x|y"), of("a", api.Not, "\xff"), of("b", api.Like, "x|y")),
		`match {a="` + strings.Repeat("v", 1024) + `", b="` + fill + `"}`: match(of("a", api.Is, strings.Repeat("v", 1024)), of("b", api.Is, fill)),
	}
}

func TestRightAndText(t *testing.T) { // 27.1
	for text, c := range valid() {
		if !Right(c) || Text(c) != text {
			t.Errorf("%v: %v, %q, want %q", c, Right(c), Text(c), text)
		}
	}
	fill := strings.Repeat("v", fits+1)
	for i, c := range []api.Caveat{
		{}, {Kind: 8}, {Kind: -1}, words(api.CTenant), words(api.CTenant, "a", "b"), words(api.CTenant, ""), words(api.CTenant, "A"), words(api.CTenant, word32+"w"), words(api.CPath), words(api.CPath, "a", "a"), words(api.CPath, "a", "b", "a"), words(api.CPath, "a b"), words(api.CPath, many(17)...), words(api.CClass), words(api.CClass, "1"), words(api.CClass, many(17)...), words(api.CClass, "a", "a"),
		words(api.CDo), words(api.CDo, "query", "query"), words(api.CDo, "read"), words(api.CDo, "query", "write", "query"), words(api.CDo, "query", "read"),
		num(api.CBefore, -1), num(api.CBefore, 1<<40+1), num(api.CAfter, -1), num(api.CAfter, 1<<40+1), match(of("", api.Is, "")), match(of("a", api.Like, "(")), match(of("a", 0, "")), match(slices.Repeat([]api.Matcher{of("a", api.Is, "")}, 65)...),
		match(of("a", api.Is, strings.Repeat("v", 1024)), of("b", api.Is, fill)),
		{Kind: api.CTenant, Words: []string{"a"}, Num: 1}, {Kind: api.CTenant, Words: []string{"a"}, Sel: match(of("a", api.Is, "")).Sel}, {Kind: api.CDo, Words: []string{"query"}, Num: 1}, {Kind: api.CBefore, Num: 1, Words: []string{"a"}}, {Kind: api.CAfter, Sel: match(of("a", api.Is, "")).Sel}, {Kind: api.CMatch, Num: 1}, {Kind: api.CMatch, Words: []string{"a"}},
	} {
		if Right(c) || Text(c) != "" || Allows(c, api.Facts{Tenant: "a", Endpoint: "a", Class: "a", Do: api.Query}) {
			t.Errorf("the invalid caveat %d is accepted", i)
		}
	}
}

func TestParse(t *testing.T) { // 27.2
	for text, c := range valid() {
		if got, ok := Parse(text); !ok || !same(got, c) {
			t.Errorf("Parse(%.40q) = %v, %v", text, got, ok)
		}
	}
	for _, s := range []string{
		"", " ", "tenant", "tenant ", "tenant  a", "tenant a ", " tenant a", "tenant a b", "tenant A", "Tenant a", "tenants a", "tenant\ta", "tenant a\n", "endpoint", "endpoint ", "endpoint a a", "endpoint a  b", "endpoint a,b", "endpoint " + strings.Join(many(17), " "), "class", "class a a",
		"do", "do ", "do read", "do query query", "do query write query", "do query  write", "before", "before ", "before -1", "before +1", "before 01", "before 00", "before -0", "before 1099511627777", "before 99999999999999999999", "before 1 ", "before 0x1", "before 1_0", "before a", "before 1 2", "after", "after 007", "after 1e3", "after ١",
		"match", "match ", "match {", "match {} ", "match  {}", `match {a="\x41"}`, `match {a="1",b="2"}`, `match {a=~"("}`, `match{}`, "\xff", "foo 1",
		`match {a="` + strings.Repeat("v", 1024) + `", b="` + strings.Repeat("v", fits+1) + `"}`, strings.Repeat("x", 1<<16),
	} {
		if c, ok := Parse(s); ok || !same(c, api.Caveat{}) {
			t.Errorf("Parse(%.40q) = %v, %v", s, c, ok)
		}
	}
}

func TestAllows(t *testing.T) { // 27.3
	f := api.Facts{Tenant: "acme", Endpoint: "query", Class: "gold", Do: api.Query, Now: 7}
	for text, want := range map[string]bool{
		"tenant acme": true, "tenant acm": false, "tenant query": false, "endpoint query": true, "endpoint series query": true, "endpoint series": false, "endpoint acme": false, "class silver gold": true, "class silver": false,
		"do query": true, "do write": false, "do write query": true, "before 8": true, "before 7": false, "before 0": false, "after 7": true, "after 8": false, "after 0": true, "match {}": true, `match {a="1", a="2"}`: true,
	} {
		c, ok := Parse(text)
		if !ok || Allows(c, f) != want {
			t.Errorf("%s allows: %v", text, !want)
		}
	}
	c, _ := Parse("do query write")
	for do, want := range map[int]bool{0: false, 1: true, 2: true, 3: false, -1: false} {
		if Allows(c, api.Facts{Do: do}) != want {
			t.Errorf("do query write allows %d: %v", do, !want)
		}
	}
	if !Allows(num(api.CBefore, 1), api.Facts{Now: -1 << 63}) || Allows(num(api.CAfter, 0), api.Facts{Now: -1}) || !Allows(num(api.CAfter, 1<<40), api.Facts{Now: 1<<63 - 1}) {
		t.Error("wrong for times beyond all limits")
	}
}

func TestDifferentCaveatsHaveDifferentTexts(t *testing.T) { // 27.4
	texts := map[string]bool{}
	for _, c := range valid() {
		texts[Text(c)] = true
		got, ok := Parse(Text(c))
		if !ok || !same(got, c) {
			t.Errorf("Parse(Text(%v)) = %v, %v", c, got, ok)
		}
	}
	if len(texts) != len(valid()) {
		t.Errorf("%d texts of %d caveats", len(texts), len(valid()))
	}
}
