package opcode

import (
	"math"
	"math/rand"
	"slices"
	"strings"
	"testing"

	"porter/api"
)

const top = 1 << 40

var long = strings.Repeat("w", 32)

func same(a, b api.Op) bool {
	return a.Kind == b.Kind && a.Tenant == b.Tenant && a.Num == b.Num && a.Text == b.Text && slices.Equal(a.Words, b.Words)
}

func lines() map[string]api.Op {
	text := strings.Repeat("\xab", 131072)
	return map[string]api.Op{
		"tenant acme x6b6b": {Kind: api.OTenant, Tenant: "acme", Text: "kk"}, "tenant acme x": {Kind: api.OTenant, Tenant: "acme"}, "rotate " + long + " x00ff": {Kind: api.ORotate, Tenant: long, Text: "\x00\xff"}, "retire acme 0": {Kind: api.ORetire, Tenant: "acme"}, "retire a 1099511627776": {Kind: api.ORetire, Tenant: "a", Num: top}, "revoke acme": {Kind: api.ORevoke, Tenant: "acme"},
		"mint acme": {Kind: api.OMint, Tenant: "acme"}, `mint acme "before 9"`: {Kind: api.OMint, Tenant: "acme", Words: []string{"before 9"}}, `mint a "" "x\"\\ \x0a\xff é" " "`: {Kind: api.OMint, Tenant: "a", Words: []string{"", "x\"\\ \n\xff é", " "}}, "mint a" + strings.Repeat(` "`+strings.Repeat("v", 2048)+`"`, 64): {Kind: api.OMint, Tenant: "a", Words: slices.Repeat([]string{strings.Repeat("v", 2048)}, 64)},
		"ask x": {Kind: api.OAsk}, "ask x0a": {Kind: api.OAsk, Text: "\n"}, "ask x" + strings.Repeat("ab", 131072): {Kind: api.OAsk, Text: text}, "tick 3": {Kind: api.OTick, Num: 3}, "tick 0": {Kind: api.OTick}, "tick 1099511627776": {Kind: api.OTick, Num: top}, "compact": {Kind: api.OCompact}, "power": {Kind: api.OPower},
	}
}

func TestLineAndParse(t *testing.T) { // 49.1, 49.3
	for line, op := range lines() {
		if got, ok := Line(op); got != line || !ok {
			t.Errorf("Line(%.60v) is %.60q, %v", op, got, ok)
		}
		if got, ok := Parse(line); !same(got, op) || !ok {
			t.Errorf("Parse(%.60q) is %.60v, %v", line, got, ok)
		}
	}
}

func TestLineRefuses(t *testing.T) { // 49.1
	for i, op := range []api.Op{
		{}, {Kind: 10}, {Kind: -1}, {Kind: math.MaxInt}, {Kind: api.OTenant}, {Kind: api.OTenant, Tenant: "A"}, {Kind: api.ORotate, Tenant: long + "w"}, {Kind: api.ORotate, Tenant: "a", Text: strings.Repeat("x", 131073)}, {Kind: api.OTenant, Tenant: "a", Num: 1}, {Kind: api.OTenant, Tenant: "a", Words: []string{""}},
		{Kind: api.ORetire, Tenant: "a", Num: -1}, {Kind: api.ORetire, Tenant: "a", Num: top + 1}, {Kind: api.ORetire, Num: 1}, {Kind: api.ORetire, Tenant: "a", Text: "x"}, {Kind: api.ORevoke}, {Kind: api.ORevoke, Tenant: "a", Num: 1}, {Kind: api.ORevoke, Tenant: "a", Text: "x"}, {Kind: api.ORevoke, Tenant: "a", Words: []string{""}},
		{Kind: api.OMint}, {Kind: api.OMint, Tenant: "a", Num: 1}, {Kind: api.OMint, Tenant: "a", Text: "x"}, {Kind: api.OMint, Tenant: "a", Words: make([]string, 65)}, {Kind: api.OMint, Tenant: "a", Words: []string{"", strings.Repeat("v", 2049)}},
		{Kind: api.OAsk, Tenant: "a"}, {Kind: api.OAsk, Num: 1}, {Kind: api.OAsk, Words: []string{""}}, {Kind: api.OAsk, Text: strings.Repeat("x", 131073)}, {Kind: api.OTick, Num: -1}, {Kind: api.OTick, Num: top + 1}, {Kind: api.OTick, Tenant: "a"}, {Kind: api.OTick, Text: "x"}, {Kind: api.OTick, Words: []string{""}},
		{Kind: api.OCompact, Tenant: "a"}, {Kind: api.OCompact, Num: 1}, {Kind: api.OPower, Text: "x"}, {Kind: api.OPower, Words: []string{""}},
	} {
		if got, ok := Line(op); got != "" || ok {
			t.Errorf("case %d: %.60q", i, got)
		}
	}
}

func TestParseRefuses(t *testing.T) { // 49.1
	for _, s := range []string{
		"", " ", "\n", "tenant", "tenant ", "tenant acme", "tenant acme ", "tenant acme 6b", "tenant acme x6", "tenant acme x6B", "tenant acme xx", "tenant acme xg0", "tenant acme x6b ", "tenant  acme x6b", " tenant acme x6b", "tenant acme x6b x6b", "Tenant acme x", "tenants acme x", "tenant A x", "tenant \"acme\" x", "rotate acme X", "rotate acme x\n",
		"retire acme", "retire acme ", "retire acme 01", "retire acme +1", "retire acme -1", "retire acme -0", "retire acme 1099511627777", "retire acme 99999999999999999999", "retire acme 1 ", "retire acme x1", "retire acme 1_0", "retire 1 acme", "revoke", "revoke ", "revoke a b", "revoke acme ", "revoke\tacme",
		"mint", "mint ", "mint acme ", "mint acme before", `mint acme "`, `mint acme "a`, `mint acme "a"b`, `mint acme "a""b"`, `mint acme "a"  "b"`, `mint acme "a" `, `mint acme "\x61"`, `mint acme "\x0A"`, `mint acme "\q"`, "mint acme \"\xff\"", "mint acme \"\n\"", `mint acme a"b"`, `mint "acme"`, `mint acme "` + strings.Repeat("v", 2049) + `"`, "mint a" + strings.Repeat(` ""`, 65),
		"ask", "ask ", "ask 00", "ask x0", "ask x00 ", "ask x00 x00", "ask acme x00", "ask x" + strings.Repeat("00", 131073), "tick", "tick ", "tick 00", "tick a", "tick 1 2", "tick 3.0", "tick ٣", "compact ", "compact 1", "compact\n", "power x", "power ", "\xff", "x6b",
	} {
		if got, ok := Parse(s); ok || !same(got, api.Op{}) {
			t.Errorf("Parse(%.60q) is %.60v", s, got)
		}
	}
}

func TestScriptAndRead(t *testing.T) { // 49.2, 49.3
	tick := api.Op{Kind: api.OTick, Num: 3}
	var all []api.Op
	text := ""
	for line, op := range lines() {
		all = append(all, op)
		text += line + "\n"
	}
	for i, c := range []struct {
		l []api.Op
		s string
	}{
		{nil, ""}, {[]api.Op{tick}, "tick 3\n"}, {[]api.Op{{Kind: api.OPower}, tick, {Kind: api.OMint, Tenant: "a", Words: []string{"\n"}}}, "power\ntick 3\nmint a \"\\x0a\"\n"}, {all, text}, {slices.Repeat([]api.Op{tick}, 1024), strings.Repeat("tick 3\n", 1024)},
	} {
		if got, ok := Script(c.l); got != c.s || !ok {
			t.Errorf("case %d: Script has %d bytes, %v", i, len(got), ok)
		}
		if got, f := Read(c.s); !slices.EqualFunc(got, c.l, same) || f != (api.Fault{}) {
			t.Errorf("case %d: Read yields %d operations, %v", i, len(got), f)
		}
	}
	for i, l := range [][]api.Op{slices.Repeat([]api.Op{tick}, 1025), {tick, {}}, {{Kind: api.OTick, Num: -1}, tick}} {
		if got, ok := Script(l); got != "" || ok {
			t.Errorf("case %d: Script has %d bytes", i, len(got))
		}
	}
}

func TestReadRefuses(t *testing.T) { // 49.2
	for _, c := range []struct {
		s    string
		want api.Fault
	}{
		{"\n", api.Fault{E: api.ErrForm}}, {"tick 3", api.Fault{E: api.ErrForm}}, {"x", api.Fault{E: api.ErrForm}}, {"tick 3\n\n", api.Fault{E: api.ErrForm, At: 1}}, {"tick 3\npower", api.Fault{E: api.ErrForm, At: 1}}, {"tick 3\npower\ntick x\npower\n", api.Fault{E: api.ErrForm, At: 2}}, {"tick 3\r\n", api.Fault{E: api.ErrForm}}, {" tick 3\n", api.Fault{E: api.ErrForm}}, {"tick 3\n ", api.Fault{E: api.ErrForm, At: 1}},
		{strings.Repeat("tick 3\n", 1025), api.Fault{E: api.ErrLimit, At: 1024}}, {"x\n" + strings.Repeat("tick 3\n", 1024), api.Fault{E: api.ErrLimit, At: 1024}}, {strings.Repeat("\n", 2000), api.Fault{E: api.ErrLimit, At: 1024}}, {strings.Repeat("tick 3\n", 1024) + "tick 3", api.Fault{E: api.ErrForm, At: 1024}}, {strings.Repeat("tick 3\n", 1023) + "x\n", api.Fault{E: api.ErrForm, At: 1023}},
	} {
		if got, f := Read(c.s); len(got) != 0 || f != c.want {
			t.Errorf("Read(%.40q) = %d operations, %v, want %v", c.s, len(got), f, c.want)
		}
	}
}

func TestInverses(t *testing.T) { // 49.3
	r := rand.New(rand.NewSource(49))
	parts := []string{"tenant", "mint", "tick", "ask", "revoke", "compact", " ", " ", "acme", "x", "6b", "\"", "\"", "\\", "before 9", "3", "0", "\n"}
	parsed := 0
	for range 100000 {
		s := ""
		for range 1 + r.Intn(7) {
			s += parts[r.Intn(len(parts))]
		}
		if op, ok := Parse(s); ok {
			parsed++
			if line, ok := Line(op); line != s || !ok {
				t.Fatalf("Line(Parse(%q)) is %q", s, line)
			}
		}
		if l, f := Read(s + "\n"); f == (api.Fault{}) {
			if again, ok := Script(l); again != s+"\n" || !ok {
				t.Fatalf("Script(Read(%q)) is %q", s, again)
			}
		}
	}
	if parsed < 100 {
		t.Errorf("only %d lines", parsed)
	}
}
