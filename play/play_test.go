package play

import (
	"fmt"
	"math"
	"slices"
	"strings"
	"testing"

	"porter/api"
	"porter/holder"
	"porter/notary"
	"porter/rootid"
	"porter/selector"
)

const nonce = "0123456789abcdef"

var (
	key   = strings.Repeat("k", 32)
	other = strings.Repeat("o", 32)
	inner = strings.Repeat("i", 32)
)

func do(op api.Op) api.Act { return api.Act{Kind: api.ADo, Op: op} }

func tenant(name string) api.Act { return do(api.Op{Kind: api.OTenant, Tenant: name, Text: key}) }

func mint(name string, words ...string) api.Act {
	return do(api.Op{Kind: api.OMint, Tenant: name, Words: words})
}

func tick(n int) api.Act { return do(api.Op{Kind: api.OTick, Num: n}) }

// asks returns an act of asking a query with a hand.
func asks(kind, of int, sel string, more ...int) api.Act {
	l, _ := selector.Parse(sel)
	return api.Act{Kind: kind, Of: of, More: more, Ask: api.Request{Tenant: "acme", Endpoint: "query", Class: "gold", Do: api.Query, Sel: l}}
}

func config() api.Config {
	return api.Config{Blocks: 190, Classes: []api.Class{{Name: "gold", Cap: 1000, Fill: 1000}}}
}

func run(t *testing.T, s Script) Played {
	t.Helper()
	p, e := Run(s)
	if e != api.OK || len(p.Replies) != len(s.Acts) || len(p.Hands) != len(s.Acts) {
		t.Fatalf("Run: error %d, %d replies, %d hands of %d acts", e, len(p.Replies), len(p.Hands), len(s.Acts))
	}
	return p
}

// plays runs acts of a tenant acme, and holds the lines of the replies against what is wanted.
func plays(t *testing.T, want string, acts ...api.Act) Played {
	t.Helper()
	p := run(t, Script{Config: config(), Acts: acts})
	if got := Lines(p.Replies); got != want {
		t.Errorf("the replies are\n%swant\n%s", got, want)
	}
	return p
}

func zero(t api.Token) bool { return t.ID == "" && len(t.Links) == 0 && t.Tag == "" }

func same(a, b api.Token) bool {
	return a.ID == b.ID && a.Tag == b.Tag && slices.Equal(a.Links, b.Links)
}

func TestRunRefuses(t *testing.T) { // 50.1
	bad := []api.Class{{Name: "A"}}
	for i, c := range []struct {
		s    Script
		want api.Errno
	}{
		{Script{Config: api.Config{Classes: bad}, Acts: make([]api.Act, 1025)}, api.ErrLimit}, {Script{Config: api.Config{Classes: bad}}, api.ErrName}, {Script{Config: api.Config{Classes: make([]api.Class, 9)}}, api.ErrLimit}, {Script{}, api.ErrArg}, {Script{Config: api.Config{Blocks: 4097}}, api.ErrArg}, {Script{Config: api.Config{Blocks: 3}}, api.ErrArg},
		{Script{Config: api.Config{Blocks: 4}, Acts: make([]api.Act, 1024)}, api.OK}, {Script{Config: api.Config{Blocks: 4}, Crashes: []api.Crash{{At: 0}, {At: 1, Keep: 9}, {At: 2, Keep: 128}}}, api.OK},
	} {
		p, e := Run(c.s)
		if e != c.want || e != api.OK && (len(p.Replies)+len(p.Hands)+len(p.State.Tenants) != 0 || p.State.Serial != 0 || p.Now != 0) {
			t.Errorf("case %d: error %d, want %d", i, e, c.want)
		}
	}
}

func TestDo(t *testing.T) { // 50.1
	p := plays(t, "ok 1\nok 1 token of 0\nok 2 token of 1\ntwice\nok 7\nclock\nargument\n",
		tenant("acme"), mint("acme"), mint("acme", "before 9"), tenant("acme"), tick(7), tick(-1), do(api.Op{}))
	for i, hand := range p.Hands {
		if !same(hand, p.Replies[i].Token) {
			t.Errorf("hand %d is %v", i, hand)
		}
	}
	if p.Now != 7 || p.State.Serial != 2 || len(p.State.Tenants) != 1 {
		t.Errorf("the end is %v at %d", p.State, p.Now)
	}
}

func TestMaking(t *testing.T) { // 50.1
	ticket, _ := notary.Ticket(Notary(3), nonce, inner, "monday")
	third := api.Act{Kind: api.AThird, Of: 1, With: 3, Text: "monday", Key: inner, Nonce: nonce}
	start := []api.Act{tenant("acme"), mint("acme", "before 99"), {Kind: api.AAdd, Of: 1, Text: "anything"}, third}
	first := run(t, Script{Config: config(), Acts: start}).Hands
	tok := first[1]
	add := func(of api.Token, text string) api.Token { r, _ := holder.Add(of, text); return r }
	sealed, _ := holder.Third(tok, ticket, inner, nonce)
	discharge, _ := notary.Discharge(Notary(3), ticket, "a", "b")
	id, _ := rootid.Put(api.Root{Tenant: "x", Key: 7})
	retag := func(of api.Token, tag string) api.Token { of.Tag = tag; return of }
	if !same(first[2], add(tok, "anything")) || !same(first[3], sealed) {
		t.Errorf("the hands are %v", first)
	}
	with := func(a api.Act, change func(*api.Act)) api.Act { change(&a); return a }
	for i, c := range []struct {
		act  api.Act
		want api.Token
	}{
		{api.Act{Kind: api.AAdd, Of: 3, Text: ""}, add(sealed, "")}, {api.Act{Kind: api.AAdd, Of: 1, Text: strings.Repeat("x", 2049)}, api.Token{}},
		{with(third, func(a *api.Act) { a.With = 10 }), api.Token{}}, {with(third, func(a *api.Act) { a.With = -1 }), api.Token{}}, {with(third, func(a *api.Act) { a.Key = inner[1:] }), api.Token{}}, {with(third, func(a *api.Act) { a.Nonce = "" }), api.Token{}}, {with(third, func(a *api.Act) { a.Text = strings.Repeat("x", 4096) }), api.Token{}},
		{api.Act{Kind: api.ADischarge, Of: 3, With: 3, Words: []string{"a", "b"}}, discharge}, {api.Act{Kind: api.ADischarge, Of: 3, With: 4}, api.Token{}}, {api.Act{Kind: api.ADischarge, Of: 3, With: 10}, api.Token{}}, {api.Act{Kind: api.ADischarge, Of: 1, With: 3}, api.Token{}}, {api.Act{Kind: api.ADischarge, Of: 3, With: 3, Words: make([]string, 65)}, api.Token{}},
		{api.Act{Kind: api.ACut, Of: 2}, retag(tok, first[2].Tag)}, {api.Act{Kind: api.ACut, Of: 1}, api.Token{ID: tok.ID, Tag: tok.Tag}},
		{api.Act{Kind: api.ASwap, Of: 2, With: 1}, retag(first[2], tok.Tag)}, {api.Act{Kind: api.ASwap, Of: 1, With: 2}, retag(tok, first[2].Tag)}, {api.Act{Kind: api.ASwap, Of: 1, With: 0}, api.Token{}}, {api.Act{Kind: api.ASwap, Of: 1, With: 4}, api.Token{}}, {api.Act{Kind: api.ASwap, Of: 1, With: -1}, api.Token{}},
		{api.Act{Kind: api.AJunk, Of: 2, Text: other}, retag(first[2], other)}, {api.Act{Kind: api.AJunk, Of: 2, Text: other[1:]}, api.Token{}}, {api.Act{Kind: api.AJunk, Of: 2}, api.Token{}},
		{api.Act{Kind: api.ARoot, Of: 2, Root: api.Root{Tenant: "x", Key: 7}}, api.Token{ID: id, Links: first[2].Links, Tag: first[2].Tag}}, {api.Act{Kind: api.ARoot, Of: 2, Root: api.Root{Tenant: "X"}}, api.Token{}}, {api.Act{Kind: api.ARoot, Of: 2, Root: api.Root{Tenant: "x", Key: -1}}, api.Token{}},
		{api.Act{Kind: 0, Of: 1}, api.Token{}}, {api.Act{Kind: 11, Of: 1}, api.Token{}}, {api.Act{Kind: -1, Of: 1}, api.Token{}},
	} {
		p := run(t, Script{Config: config(), Acts: append(slices.Clone(start), c.act)})
		if !same(p.Hands[4], c.want) || Lines(p.Replies[4:]) != "ok\n" {
			t.Errorf("case %d: %v, want %v", i, p.Hands[4], c.want)
		}
	}
	// Hands that are not earlier ones, or have no tag, make nothing.
	for kind := range 12 {
		for _, of := range []int{0, 4, 5, -1, math.MaxInt} {
			if kind == api.ADo {
				continue
			}
			a := api.Act{Kind: kind, Of: of, With: 1, Text: other, Key: inner, Nonce: nonce, Root: api.Root{Tenant: "x"}, Ask: asks(api.AAsk, 1, "{}").Ask}
			if p := run(t, Script{Config: config(), Acts: append(slices.Clone(start), a)}); !zero(p.Hands[4]) || Lines(p.Replies[4:]) != "ok\n" {
				t.Errorf("kind %d of hand %d: %v, %v", kind, of, p.Hands[4], p.Replies[4])
			}
		}
	}
}

func TestCutToNothing(t *testing.T) { // 50.1
	p := plays(t, "ok 1\nok 1 token of 0\nok\nok\n", tenant("acme"), mint("acme"), api.Act{Kind: api.ACut, Of: 1}, api.Act{Kind: api.AAdd, Of: 2, Text: "x"})
	if !zero(p.Hands[2]) || !zero(p.Hands[3]) {
		t.Errorf("the hands are %v", p.Hands)
	}
}

func TestAsking(t *testing.T) { // 50.1
	third := api.Act{Kind: api.AThird, Of: 1, With: 3, Text: "monday", Key: inner, Nonce: nonce}
	start := []api.Act{tenant("acme"), mint("acme", `match {env="prod"}`), third, {Kind: api.ADischarge, Of: 2, With: 3, Words: []string{`match {job="x"}`}}, tick(1)}
	bad := asks(api.AAsk, 1, "{}")
	bad.Ask.Tenant = "A"
	full := asks(api.AAsk, 1, "{}")
	full.Ask.Bundle.More = make([]api.Token, 20)
	for i, c := range []struct {
		act  api.Act
		want string
	}{
		{asks(api.AAsk, 1, "{}"), `ok {env="prod"}`}, {asks(api.ALoose, 1, `{a="1"}`), `ok {a="1", env="prod"}`}, {full, `ok {env="prod"}`}, {asks(api.AAsk, 1, `{env!="prod"}`), "empty"}, {bad, "name"},
		{asks(api.AAsk, 2, "{}", 3), `ok {env="prod", job="x"}`}, {asks(api.ALoose, 2, "{}", 3), "discharge"}, {asks(api.AAsk, 2, "{}"), "discharge"}, {asks(api.AAsk, 1, "{}", 3), "discharge"}, {asks(api.AAsk, 2, "{}", 3, 3), "discharge"}, {asks(api.AAsk, 2, "{}", 99), "discharge"}, {asks(api.AAsk, 2, "{}", 0, 3), "discharge"}, {asks(api.ALoose, 2, "{}", 99), "argument"}, {asks(api.ALoose, 2, "{}", -1), "argument"}, {asks(api.AAsk, 2, "{}", slices.Repeat([]int{3}, 9)...), "limit"},
		{asks(api.AAsk, 3, "{}"), "form"},
	} {
		p := run(t, Script{Config: config(), Acts: append(slices.Clone(start), c.act)})
		if got := Lines(p.Replies[5:]); got != c.want+"\n" || !zero(p.Hands[5]) {
			t.Errorf("case %d: %swant %s", i, got, c.want)
		}
	}
}

// TestFirstLink: a third-party caveat can be the first link of a token.
func TestFirstLink(t *testing.T) { // 50.1
	plays(t, "ok 1\nok 1 token of 0\nok\nok\nok 1\nok\n", tenant("acme"), mint("acme"), api.Act{Kind: api.AThird, Of: 1, With: 9, Key: inner, Nonce: nonce}, api.Act{Kind: api.ADischarge, Of: 2, With: 9}, tick(1), asks(api.AAsk, 2, "{}", 3))
}

// TestExamples are the examples of DOC.md, as far as they are told there.
func TestExamples(t *testing.T) { // 50.1
	plays(t, "ok 1\ntwice\nok 1 token of 0\nok 2 token of 0\n", tenant("acme"), tenant("acme"), mint("acme"), mint("acme")) // 1, 2
	series := asks(api.AAsk, 3, "{}")
	series.Ask.Endpoint = "series"
	plays(t, "ok 1\nok 1 token of 0\nok 1\nok\nok\ndenied\n", tenant("acme"), mint("acme"), tick(1), api.Act{Kind: api.AAdd, Of: 1, Text: "endpoint query"}, asks(api.AAsk, 3, "{}"), series) // 3
	plays(t, "ok 1\nok 1 token of 1\nok 1\nok {env=\"prod\", job=~\"a.*\"}\nok\nok {env=\"prod\", job=\"ab\"}\nempty\nok\ntag\n",
		tenant("acme"), mint("acme", `match {env="prod"}`), tick(1), asks(api.AAsk, 1, `{job=~"a.*"}`), // 4
		api.Act{Kind: api.AAdd, Of: 1, Text: `match {job=~"ab|b"}`}, asks(api.AAsk, 4, `{job=~"a.*"}`), // 5
		asks(api.AAsk, 1, `{env!="prod"}`),                      // 6
		api.Act{Kind: api.ACut, Of: 4}, asks(api.AAsk, 7, "{}")) // 7
	slow := Script{Config: api.Config{Blocks: 190, Classes: []api.Class{{Name: "gold", Cap: 2, Fill: 1}}}}
	slow.Acts = []api.Act{tenant("acme"), mint("acme"), tick(100), asks(api.AAsk, 1, "{}"), asks(api.AAsk, 1, "{}"), asks(api.AAsk, 1, "{}"), tick(1), asks(api.AAsk, 1, "{}"), asks(api.AAsk, 1, "{}")}
	if got := Lines(run(t, slow).Replies); got != "ok 1\nok 1 token of 0\nok 100\nok\nok\nrate\nok 101\nok\nrate\n" { // 9
		t.Errorf("the replies are\n%s", got)
	}
	lost := Script{Config: config(), Crashes: []api.Crash{{At: 4, Keep: 50}}}
	lost.Acts = []api.Act{tenant("acme"), mint("acme"), tick(1), asks(api.AAsk, 1, "{}"), do(api.Op{Kind: api.ORevoke, Tenant: "acme"}), asks(api.AAsk, 1, "{}"), mint("acme"), asks(api.AAsk, 1, "{}"), do(api.Op{Kind: api.OPower}), asks(api.AAsk, 1, "{}")}
	if got := Lines(run(t, lost).Replies); got != "ok 1\nok 1 token of 0\nok 1\nok\nok 1\nepoch\ndown\ndown\nok\nepoch\n" { // 10
		t.Errorf("the replies are\n%s", got)
	}
}

func TestLinesNotaryCount(t *testing.T) { // 50.2
	l := []api.Reply{{}, {Code: api.ErrRate}, {Code: 22}, {Code: -1}, {Code: api.ErrNil, Num: 3}, {Code: api.ErrRate}, {Code: 1 << 40}}
	if got := Lines(l); got != "ok\nrate\nother\nother\nnil 3\nrate\nother\n" || Lines(nil) != "" {
		t.Errorf("Lines is %q", got)
	}
	want := make([]int, 22)
	want[0], want[17], want[21] = 1, 2, 1
	if got := Count(l); !slices.Equal(got, want) || len(Count(nil)) != 22 {
		t.Errorf("Count is %v", got)
	}
	for n := range 10 {
		if got := Notary(n); got != fmt.Sprint("notary ", n)+strings.Repeat("\x00", 24) {
			t.Errorf("Notary(%d) is %q", n, got)
		}
	}
	for _, n := range []int{-1, 10, math.MinInt, math.MaxInt} {
		if got := Notary(n); got != "" {
			t.Errorf("Notary(%d) is %q", n, got)
		}
	}
}

func TestNothingIsShared(t *testing.T) {
	acts := []api.Act{tenant("acme"), mint("acme", "before 9", "before 8"), {Kind: api.AJunk, Of: 1, Text: other}, {Kind: api.ASwap, Of: 1, With: 2}, {Kind: api.ACut, Of: 1}, {Kind: api.AAdd, Of: 4, Text: "x"}, {Kind: api.ARoot, Of: 1, Root: api.Root{Tenant: "x"}}}
	p := run(t, Script{Config: config(), Acts: acts})
	lists := [][]api.Link{p.Replies[1].Token.Links}
	for _, hand := range p.Hands[1:] {
		lists = append(lists, hand.Links)
	}
	for i, l := range lists {
		if l[0].Text != "before 9" {
			t.Fatalf("list %d is %v", i, l)
		}
		l[0].Text = "changed"
	}
	if acts[1].Op.Words[0] != "before 9" {
		t.Error("the script is changed")
	}
}
