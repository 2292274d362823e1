package gate

import (
	"fmt"
	"math"
	"reflect"
	"slices"
	"strings"
	"testing"

	"porter/api"
	"porter/chain"
	"porter/disk"
	"porter/holder"
	"porter/notary"
	"porter/request"
	"porter/rootid"
	"porter/selector"
)

const (
	top   = 1 << 40
	nonce = "0123456789abcdef"
)

var (
	key   = strings.Repeat("k", 32)
	other = strings.Repeat("o", 32)
	inner = strings.Repeat("i", 32)
	third = strings.Repeat("t", 32)
)

func gold(most, fill int) api.Config {
	return api.Config{Classes: []api.Class{{Name: "gold", Cap: most, Fill: fill}}}
}

func newDisk(t *testing.T, blocks int, crashes ...api.Crash) *disk.Disk {
	t.Helper()
	d, e := disk.New(blocks, crashes...)
	if e != api.OK {
		t.Fatalf("New: error %d", e)
	}
	return d
}

// opened returns a gateway with the tenant acme, on a disk of 190 blocks.
func opened(t *testing.T, crashes ...api.Crash) *Gate {
	t.Helper()
	g, e := Open(gold(top, top), newDisk(t, 190, crashes...))
	if g == nil || e != api.OK {
		t.Fatalf("Open: error %d", e)
	}
	does(t, g, api.Op{Kind: api.OTenant, Tenant: "acme", Text: key})
	does(t, g, api.Op{Kind: api.OTick, Num: 1})
	return g
}

// does executes an operation that must succeed.
func does(t *testing.T, g *Gate, op api.Op) api.Reply {
	t.Helper()
	r := g.Do(op)
	if r.Code != api.OK {
		t.Fatalf("%v: error %d", op, r.Code)
	}
	return r
}

func mint(t *testing.T, g *Gate, caveats ...string) api.Token {
	t.Helper()
	return does(t, g, api.Op{Kind: api.OMint, Tenant: "acme", Words: caveats}).Token
}

// query returns a query of acme for a selector's text.
func query(tok api.Token, sel string, more ...api.Token) api.Request {
	l, _ := selector.Parse(sel)
	return api.Request{Bundle: api.Bundle{Token: tok, More: more}, Tenant: "acme", Endpoint: "query", Class: "gold", Do: api.Query, Sel: l}
}

func write(tok api.Token, pairs ...string) api.Request {
	q := api.Request{Bundle: api.Bundle{Token: tok}, Tenant: "acme", Endpoint: "query", Class: "gold", Do: api.Write}
	for i := 0; i < len(pairs); i += 2 {
		q.Series = append(q.Series, api.Label{Name: pairs[i], Value: pairs[i+1]})
	}
	return q
}

func ask(t *testing.T, g *Gate, q api.Request) api.Reply {
	t.Helper()
	s, e := request.Put(q)
	if e != api.OK {
		t.Fatalf("Put: error %d", e)
	}
	return g.Do(api.Op{Kind: api.OAsk, Text: s})
}

func sameReply(a, b api.Reply) bool {
	return a.Code == b.Code && a.Num == b.Num && slices.Equal(a.Sel, b.Sel) && sameToken(a.Token, b.Token)
}

func sameToken(a, b api.Token) bool {
	return a.ID == b.ID && a.Tag == b.Tag && slices.Equal(a.Links, b.Links)
}

func show(s api.State) string { return fmt.Sprint(s.Tenants, s.Serial) }

func TestOpen(t *testing.T) { // 47.1
	good, off := newDisk(t, 4), newDisk(t, 4, api.Crash{})
	off.Write(0, strings.Repeat("x", 128))
	for i, c := range []struct {
		c    api.Config
		d    *disk.Disk
		want api.Errno
	}{
		{gold(-1, 0), nil, api.ErrArg}, {api.Config{Classes: make([]api.Class, 9)}, good, api.ErrLimit}, {gold(1, 1), nil, api.ErrNil}, {gold(1, 1), &disk.Disk{}, api.ErrNil}, {gold(1, 1), off, api.ErrDown}, {gold(1, 1), newDisk(t, 3), api.ErrArg}, {gold(1, 1), newDisk(t, 4, api.Crash{Keep: 9}), api.ErrDown},
		{api.Config{Blocks: -7}, good, api.OK},
	} {
		if g, e := Open(c.c, c.d); e != c.want || (g == nil) != (e != api.OK) {
			t.Errorf("case %d: error %d, want %d", i, e, c.want)
		}
	}
	g, _ := Open(gold(5, 1), good)
	if g.Now() != 0 || show(g.State()) != show(api.State{}) || g.Left("acme", "gold") != 0 {
		t.Error("a new gateway is not empty")
	}
}

func TestGatesThatOpenDidNotMake(t *testing.T) { // 47.2, 47.5
	for _, g := range []*Gate{nil, {}} {
		for kind := -1; kind < 12; kind++ {
			if r := g.Do(api.Op{Kind: kind}); !sameReply(r, api.Reply{Code: api.ErrNil}) {
				t.Errorf("kind %d: %v", kind, r)
			}
		}
		if g.Now() != 0 || show(g.State()) != show(api.State{}) || g.Left("acme", "gold") != 0 {
			t.Errorf("%v does something", g)
		}
	}
}

func TestAdministration(t *testing.T) { // 47.2
	g := opened(t)
	for i, c := range []struct {
		op   api.Op
		want api.Reply
	}{
		{api.Op{Kind: api.OTenant, Tenant: "acme", Text: key}, api.Reply{Code: api.ErrTwice}}, {api.Op{Kind: api.OTenant, Tenant: "A", Text: key}, api.Reply{Code: api.ErrName}}, {api.Op{Kind: api.OTenant, Tenant: "b", Text: "short"}, api.Reply{Code: api.ErrArg}}, {api.Op{Kind: api.OTenant, Tenant: "b", Text: key, Num: 9, Words: []string{"ignored"}}, api.Reply{Num: 1}},
		{api.Op{Kind: api.ORotate, Tenant: "acme", Text: other}, api.Reply{Num: 2}}, {api.Op{Kind: api.ORotate, Tenant: "acme", Text: other}, api.Reply{Num: 3}}, {api.Op{Kind: api.ORotate, Tenant: "x", Text: other}, api.Reply{Code: api.ErrNone}}, {api.Op{Kind: api.ORotate, Tenant: "acme"}, api.Reply{Code: api.ErrArg}},
		{api.Op{Kind: api.ORetire, Tenant: "acme", Num: 1}, api.Reply{}}, {api.Op{Kind: api.ORetire, Tenant: "acme", Num: 1}, api.Reply{Code: api.ErrNone}}, {api.Op{Kind: api.ORetire, Tenant: "acme", Num: 3}, api.Reply{Code: api.ErrArg}},
		{api.Op{Kind: api.ORevoke, Tenant: "acme"}, api.Reply{Num: 1}}, {api.Op{Kind: api.ORevoke, Tenant: "acme"}, api.Reply{Num: 2}}, {api.Op{Kind: api.ORevoke, Tenant: "x"}, api.Reply{Code: api.ErrNone}},
		{api.Op{Kind: api.OTick, Num: 0}, api.Reply{Num: 1}}, {api.Op{Kind: api.OTick, Num: 41}, api.Reply{Num: 42}}, {api.Op{Kind: api.OTick, Num: -1}, api.Reply{Code: api.ErrClock}}, {api.Op{Kind: api.OTick, Num: top - 41}, api.Reply{Code: api.ErrClock}}, {api.Op{Kind: api.OTick, Num: math.MaxInt}, api.Reply{Code: api.ErrClock}}, {api.Op{Kind: api.OTick, Num: math.MinInt}, api.Reply{Code: api.ErrClock}}, {api.Op{Kind: api.OTick, Num: top - 42}, api.Reply{Num: top}}, {api.Op{Kind: api.OTick, Num: 1}, api.Reply{Code: api.ErrClock}},
		{api.Op{Kind: api.OCompact}, api.Reply{}}, {api.Op{Kind: api.OPower}, api.Reply{}}, {api.Op{Kind: 0}, api.Reply{Code: api.ErrArg}}, {api.Op{Kind: 10}, api.Reply{Code: api.ErrArg}}, {api.Op{Kind: -1}, api.Reply{Code: api.ErrArg}}, {api.Op{Kind: math.MaxInt}, api.Reply{Code: api.ErrArg}},
	} {
		before := show(g.State())
		if got := g.Do(c.op); !sameReply(got, c.want) {
			t.Errorf("case %d, %v: %v, want %v", i, c.op, got, c.want)
		}
		if c.want.Code != api.OK && show(g.State()) != before {
			t.Errorf("case %d changes the state", i)
		}
	}
	want := "[{acme 2 4 [{2 " + other + "} {3 " + other + "}]} {b 0 2 [{1 " + key + "}]}] 0"
	if got := show(g.State()); got != want || g.Now() != top {
		t.Errorf("the state is %s at %d", got, g.Now())
	}
}

func TestMint(t *testing.T) { // 47.3
	g := opened(t)
	does(t, g, api.Op{Kind: api.ORotate, Tenant: "acme", Text: other})
	does(t, g, api.Op{Kind: api.ORevoke, Tenant: "acme"})
	for serial, words := range [][]string{1: nil, 2: {"before 9"}, 3: {"before 9", "match {}", "before 9"}, 4: slices.Repeat([]string{"after 0"}, 64)} {
		if serial == 0 {
			continue
		}
		r := does(t, g, api.Op{Kind: api.OMint, Tenant: "acme", Words: words})
		id, _ := rootid.Put(api.Root{Tenant: "acme", Key: 2, Epoch: 1, Serial: serial})
		want := api.Token{ID: id}
		for _, text := range words {
			want.Links = append(want.Links, api.Link{Text: text})
		}
		want.Tag = chain.Last(other, want)
		if !sameReply(r, api.Reply{Num: serial, Token: want}) || g.State().Serial != serial {
			t.Errorf("the reply is %v, want token %v", r, want)
		}
	}
	for i, c := range []struct {
		tenant string
		words  []string
		want   api.Errno
	}{
		{"x", slices.Repeat([]string{""}, 65), api.ErrLimit}, {"x", []string{"before 9", "Before 9"}, api.ErrCaveat}, {"x", []string{""}, api.ErrCaveat}, {"x", []string{`match {a="\x41"}`}, api.ErrCaveat}, {"x", nil, api.ErrNone}, {"", nil, api.ErrNone}, {"acme", []string{"before 01"}, api.ErrCaveat},
	} {
		if r := g.Do(api.Op{Kind: api.OMint, Tenant: c.tenant, Words: c.words}); !sameReply(r, api.Reply{Code: c.want}) || g.State().Serial != 4 {
			t.Errorf("case %d: %v, want error %d", i, r, c.want)
		}
	}
}

func TestQueries(t *testing.T) { // 47.4
	g := opened(t)
	for i, c := range []struct {
		caveats []string
		sel     string
		code    api.Errno
		want    string
	}{
		{nil, "{}", api.OK, "{}"}, {nil, `{b="1", a=~"x|y"}`, api.OK, `{a=~"x|y", b="1"}`}, {[]string{`match {env="prod"}`}, `{job=~"a.*"}`, api.OK, `{env="prod", job=~"a.*"}`}, {[]string{`match {env="prod"}`, `match {job=~"ab|b"}`}, `{job=~"a.*"}`, api.OK, `{env="prod", job="ab"}`}, {[]string{`match {env="prod"}`}, `{env!="prod"}`, api.ErrEmpty, "{}"},
		{[]string{"endpoint query"}, "{}", api.OK, "{}"}, {[]string{"endpoint series"}, "{}", api.ErrDenied, "{}"}, {[]string{"class silver"}, "{}", api.ErrDenied, "{}"}, {[]string{"tenant acme"}, "{}", api.OK, "{}"}, {[]string{"tenant b"}, "{}", api.ErrDenied, "{}"}, {[]string{"do write"}, "{}", api.ErrDenied, "{}"}, {[]string{"before 1"}, "{}", api.ErrDenied, "{}"}, {[]string{"before 2", "after 1"}, "{}", api.OK, "{}"}, {[]string{"after 2"}, "{}", api.ErrDenied, "{}"},
		{[]string{`match {a=~"((a{16}){16}){3}"}`}, "{}", api.ErrStates, "{}"}, {[]string{"endpoint series", `match {a="1", a="2"}`}, "{}", api.ErrDenied, "{}"},
	} {
		r := ask(t, g, query(mint(t, g, c.caveats...), c.sel))
		if r.Code != c.code || selector.Text(r.Sel) != c.want || r.Num != 0 || !sameToken(r.Token, api.Token{}) {
			t.Errorf("case %d: error %d, %s", i, r.Code, selector.Text(r.Sel))
		}
	}
	many := query(mint(t, g, `match {z="1"}`), "{}")
	for i := range 64 {
		many.Sel = append(many.Sel, api.Matcher{Name: fmt.Sprint("n", i), Op: api.Is, Value: "1"})
	}
	if r := ask(t, g, many); r.Code != api.ErrLimit {
		t.Errorf("65 matchers: error %d", r.Code)
	}
}

func TestWrites(t *testing.T) { // 47.4
	g := opened(t)
	for i, c := range []struct {
		caveats []string
		series  []string
		want    api.Errno
	}{
		{nil, nil, api.OK}, {[]string{`match {env="prod"}`}, []string{"env", "prod", "job", "x"}, api.OK}, {[]string{`match {env="prod"}`}, []string{"env", "dev"}, api.ErrSeries}, {[]string{`match {env="prod"}`}, nil, api.ErrSeries}, {[]string{`match {env=~"prod|dev"}`, `match {env!="dev"}`}, []string{"env", "dev"}, api.ErrSeries}, {[]string{"do query"}, nil, api.ErrDenied}, {[]string{"do write query"}, nil, api.OK}, {[]string{`match {env=~"((a{16}){16}){3}"}`}, nil, api.ErrSeries},
	} {
		if r := ask(t, g, write(mint(t, g, c.caveats...), c.series...)); !sameReply(r, api.Reply{Code: c.want}) {
			t.Errorf("case %d: %v, want error %d", i, r, c.want)
		}
	}
}

func TestErrorsInOrder(t *testing.T) { // 47.4
	g := opened(t)
	does(t, g, api.Op{Kind: api.OTenant, Tenant: "b", Text: other})
	if r := g.Do(api.Op{Kind: api.OAsk}); !sameReply(r, api.Reply{Code: api.ErrEnd}) {
		t.Errorf("no request: %v", r)
	}
	if r := g.Do(api.Op{Kind: api.OAsk, Text: "\x02"}); r.Code != api.ErrForm {
		t.Errorf("no request: %v", r)
	}
	made := func(root api.Root, by string, texts ...string) api.Token {
		id, _ := rootid.Put(root)
		tok := api.Token{ID: id}
		for _, text := range texts {
			tok.Links = append(tok.Links, api.Link{Text: text})
		}
		tok.Tag = chain.Last(by, tok)
		return tok
	}
	with := func(tok api.Token, change func(*api.Token)) api.Token { change(&tok); return tok }
	root := api.Root{Tenant: "acme", Key: 1, Serial: 1}
	for i, c := range []struct {
		q    api.Request
		want api.Errno
	}{
		{query(made(root, key), "{}"), api.OK}, {query(with(made(root, key), func(x *api.Token) { x.ID = "x" }), "{}"), api.ErrForm}, {query(with(made(root, key), func(x *api.Token) { x.ID = "" }), "{}"), api.ErrForm}, {query(with(made(root, key), func(x *api.Token) { x.ID += "x" }), "{}"), api.ErrForm},
		{query(made(api.Root{Tenant: "x", Key: 1}, key), "{}"), api.ErrKey}, {query(made(api.Root{Tenant: "acme", Key: 2}, key), "{}"), api.ErrKey}, {query(made(api.Root{Tenant: "b", Key: 1}, key), "{}"), api.ErrTag}, {query(made(root, other), "{}"), api.ErrTag}, {query(made(root, key), "{}", made(root, key)), api.ErrDischarge},
		{query(made(root, key, "before 0", "nonsense"), "{}"), api.ErrCaveat}, {query(made(api.Root{Tenant: "b", Key: 1}, other, "nonsense"), "{}"), api.ErrCaveat}, {query(made(api.Root{Tenant: "b", Key: 1}, other), "{}"), api.ErrDenied}, {query(made(root, key, "before 0", `match {a="1", a="2"}`), "{}"), api.ErrDenied}, {query(made(root, key, `match {a="1"}`), `{a="2"}`), api.ErrEmpty}, {query(made(api.Root{Tenant: "acme", Key: 1, Epoch: 9}, key), "{}"), api.OK},
	} {
		if r := ask(t, g, c.q); r.Code != c.want {
			t.Errorf("case %d: error %d, want %d", i, r.Code, c.want)
		}
	}
	does(t, g, api.Op{Kind: api.ORevoke, Tenant: "acme"})
	for i, c := range []struct {
		q    api.Request
		want api.Errno
	}{
		{query(made(root, key, "nonsense"), "{}"), api.ErrEpoch}, {query(made(root, other), "{}"), api.ErrTag}, {query(made(root, key), "{}", made(root, key)), api.ErrDischarge}, {query(made(api.Root{Tenant: "acme", Key: 1, Epoch: 1}, key), "{}"), api.OK},
	} {
		if r := ask(t, g, c.q); r.Code != c.want {
			t.Errorf("after ORevoke, case %d: error %d, want %d", i, r.Code, c.want)
		}
	}
	unknown := query(made(api.Root{Tenant: "acme", Key: 1, Epoch: 1}, key), "{}")
	unknown.Class = "silver"
	if r := ask(t, g, unknown); r.Code != api.ErrNone {
		t.Errorf("an unknown class: error %d", r.Code)
	}
}

func TestHolders(t *testing.T) { // 47.4, 47.6
	g := opened(t)
	tok := mint(t, g)
	narrow, _ := holder.Add(tok, "endpoint query")
	if r := ask(t, g, query(narrow, "{}")); r.Code != api.OK {
		t.Errorf("an added caveat: error %d", r.Code)
	}
	series := query(narrow, "{}")
	series.Endpoint = "series"
	if r := ask(t, g, series); r.Code != api.ErrDenied {
		t.Errorf("another endpoint: error %d", r.Code)
	}
	cut := narrow
	cut.Links = nil
	if r := ask(t, g, query(cut, "{}")); r.Code != api.ErrTag {
		t.Errorf("a removed caveat: error %d", r.Code)
	}
	ticket, _ := notary.Ticket(third, nonce, inner, "monday")
	sealed, _ := holder.Third(tok, ticket, inner, nonce)
	if r := ask(t, g, query(sealed, "{}")); r.Code != api.ErrDischarge {
		t.Errorf("no discharge: error %d", r.Code)
	}
	for caveat, want := range map[string]api.Errno{"before 2": api.OK, "before 1": api.ErrDenied, "nonsense": api.ErrCaveat} {
		discharge, _ := notary.Discharge(third, ticket, caveat)
		q := query(sealed, "{}")
		q.Bundle = holder.Bundle(sealed, discharge)
		if r := ask(t, g, q); r.Code != want {
			t.Errorf("a discharge with %s: error %d, want %d", caveat, r.Code, want)
		}
		q.Bundle.More = []api.Token{discharge}
		if r := ask(t, g, q); r.Code != api.ErrDischarge {
			t.Errorf("a discharge that is not bound: error %d", r.Code)
		}
	}
}

// TestCaveatsOnlyNarrow: what a token with an additional caveat may do, it may do without it.
func TestCaveatsOnlyNarrow(t *testing.T) { // P8
	g := opened(t)
	caveats := []string{"tenant acme", "endpoint query", "endpoint series", "class gold", "do query", "do write", "before 2", "after 1", "after 2", `match {env="prod"}`, `match {env=~"p.*", job!="x"}`, `match {job="x"}`}
	values := []string{"", "prod", "p", "x"}
	for _, a := range caveats {
		for _, b := range append(caveats, "match {}") {
			wide := mint(t, g, a)
			narrow, _ := holder.Add(wide, b)
			x, y := ask(t, g, query(wide, `{job=~".?"}`)), ask(t, g, query(narrow, `{job=~".?"}`))
			if y.Code == api.OK && x.Code != api.OK {
				t.Errorf("%s and %s allow what %s does not", a, b, a)
			}
			for _, env := range values {
				for _, job := range values {
					l := []api.Label{{Name: "env", Value: env}, {Name: "job", Value: job}}
					if y.Code == api.OK && selector.Holds(y.Sel, l) && !selector.Holds(x.Sel, l) {
						t.Errorf("%s and %s show %v, and %s does not", a, b, l, a)
					}
				}
			}
			if ask(t, g, write(narrow, "env", "prod", "job", "x")).Code == api.OK && ask(t, g, write(wide, "env", "prod", "job", "x")).Code != api.OK {
				t.Errorf("%s and %s allow a write that %s does not", a, b, a)
			}
		}
	}
}

func TestKeysAndEpochs(t *testing.T) { // 47.6
	g := opened(t)
	old := mint(t, g)
	does(t, g, api.Op{Kind: api.ORotate, Tenant: "acme", Text: other})
	young := mint(t, g)
	for _, tok := range []api.Token{old, young} {
		if r := ask(t, g, query(tok, "{}")); r.Code != api.OK {
			t.Errorf("after ORotate: error %d", r.Code)
		}
	}
	does(t, g, api.Op{Kind: api.ORetire, Tenant: "acme", Num: 1})
	if a, b := ask(t, g, query(old, "{}")), ask(t, g, query(young, "{}")); a.Code != api.ErrKey || b.Code != api.OK {
		t.Errorf("after ORetire: errors %d, %d", a.Code, b.Code)
	}
	does(t, g, api.Op{Kind: api.ORevoke, Tenant: "acme"})
	if r := ask(t, g, query(young, "{}")); r.Code != api.ErrEpoch {
		t.Errorf("after ORevoke: error %d", r.Code)
	}
	does(t, g, api.Op{Kind: api.OPower})
	if r := ask(t, g, query(young, "{}")); r.Code != api.ErrEpoch {
		t.Errorf("after OPower: error %d", r.Code)
	}
	does(t, g, api.Op{Kind: api.OTick, Num: 1})
	if r := ask(t, g, query(mint(t, g), "{}")); r.Code != api.OK {
		t.Errorf("a new token: error %d", r.Code)
	}
}

func TestRates(t *testing.T) { // 47.4 to 47.6
	g, _ := Open(api.Config{Classes: []api.Class{{Name: "gold", Cap: 2, Fill: 1}, {Name: "silver", Cap: 9, Fill: 9}}}, newDisk(t, 190))
	does(t, g, api.Op{Kind: api.OTenant, Tenant: "acme", Text: key})
	tok := mint(t, g)
	bad := tok
	bad.Tag = other
	codes := func(want ...api.Errno) {
		t.Helper()
		for i, e := range want {
			left := g.Left("acme", "gold")
			if r := ask(t, g, query(bad, "{}")); r.Code != api.ErrTag || g.Left("acme", "gold") != left {
				t.Errorf("a refused request costs something, or is not refused: error %d", r.Code)
			}
			if r := ask(t, g, query(tok, "{}")); !sameReply(r, api.Reply{Code: e}) {
				t.Errorf("request %d: %v, want error %d", i, r, e)
			}
		}
	}
	codes(api.ErrRate)
	does(t, g, api.Op{Kind: api.OTick, Num: 100})
	if g.Left("acme", "gold") != 2 || g.Left("b", "gold") != 2 || g.Left("acme", "none") != 0 {
		t.Errorf("%d left", g.Left("acme", "gold"))
	}
	codes(api.OK, api.OK, api.ErrRate)
	does(t, g, api.Op{Kind: api.OTick, Num: 1})
	codes(api.OK, api.ErrRate)
	does(t, g, api.Op{Kind: api.OTick, Num: 100})
	does(t, g, api.Op{Kind: api.OPower})
	if g.Now() != 201 || g.Left("acme", "gold") != 0 || g.Left("acme", "silver") != 0 {
		t.Errorf("after OPower: %d left at %d", g.Left("acme", "gold"), g.Now())
	}
	codes(api.ErrRate)
}

func TestPowerLoss(t *testing.T) { // 47.2
	for write := 2; write < 7; write++ {
		for _, keep := range []int{0, 1, 9, 100, 128} {
			g := opened(t, api.Crash{At: write, Keep: keep})
			ops := []api.Op{{Kind: api.OTenant, Tenant: "b", Text: key}, {Kind: api.ORotate, Tenant: "acme", Text: other}, {Kind: api.OMint, Tenant: "acme"}, {Kind: api.OCompact}, {Kind: api.ORevoke, Tenant: "acme"}, {Kind: api.ORetire, Tenant: "acme", Num: 1}}
			lost := false
			for _, op := range ops {
				before := show(g.State())
				r := g.Do(op)
				if r.Code == api.OK {
					continue
				}
				lost = true
				if !sameReply(r, api.Reply{Code: api.ErrDown}) || show(g.State()) != before || g.Now() != 1 {
					t.Fatalf("%v: %v", op, r)
				}
				for kind := -1; kind < 12; kind++ {
					if kind == api.OPower {
						continue
					}
					if r := g.Do(api.Op{Kind: kind, Tenant: "acme", Num: 1}); !sameReply(r, api.Reply{Code: api.ErrDown}) || g.Now() != 1 {
						t.Fatalf("kind %d without power: %v", kind, r)
					}
				}
				does(t, g, api.Op{Kind: api.OPower})
				after := show(g.State())
				if complete := keep == 128; complete == (after == before) && op.Kind != api.OCompact {
					t.Errorf("%v with %d bytes: %s", op, keep, after)
				}
				if after == before {
					does(t, g, op)
				}
			}
			if !lost {
				t.Errorf("no power loss at write %d", write)
			}
		}
	}
}

// TestDownUntilOpened: as long as the store cannot be opened, power is off.
func TestDownUntilOpened(t *testing.T) { // 47.2
	d := newDisk(t, 4, api.Crash{At: 4, Keep: 3}, api.Crash{At: 5, Keep: 3})
	g, _ := Open(gold(1, 1), d)
	does(t, g, api.Op{Kind: api.OTenant, Tenant: "acme", Text: key})
	// Both areas are destroyed behind the gateway's back; opening makes a new generation, which fails at first.
	d.Write(0, strings.Repeat("\x00", 128))
	d.Write(2, strings.Repeat("\x00", 128))
	for i := range 2 {
		if r := g.Do(api.Op{Kind: api.OPower}); !sameReply(r, api.Reply{Code: api.ErrDown}) {
			t.Errorf("power %d: %v", i, r)
		}
		if r := g.Do(api.Op{Kind: api.OTick, Num: 1}); r.Code != api.ErrDown {
			t.Errorf("without power: %v", r)
		}
	}
	does(t, g, api.Op{Kind: api.OPower})
	if show(g.State()) != show(api.State{}) {
		t.Errorf("the state is %v", g.State())
	}
}

func TestFullDisk(t *testing.T) { // 47.2, 47.6
	g, _ := Open(gold(1, 1), newDisk(t, 4))
	names := 0
	for i := range 16 {
		before := show(g.State())
		r := g.Do(api.Op{Kind: api.OTenant, Tenant: fmt.Sprint("t", i), Text: key})
		if r.Code == api.OK {
			names++
		} else if !sameReply(r, api.Reply{Code: api.ErrFull}) || show(g.State()) != before {
			t.Errorf("tenant %d: %v", i, r)
		}
	}
	if names < 2 || names == 16 {
		t.Errorf("%d tenants on 4 blocks", names)
	}
}

func TestNothingIsShared(t *testing.T) {
	g := opened(t)
	words := []string{"before 9"}
	tok := does(t, g, api.Op{Kind: api.OMint, Tenant: "acme", Words: words}).Token
	words[0] = "changed"
	if tok.Links[0].Text != "before 9" {
		t.Error("a token shares memory with an operation")
	}
	state := g.State()
	before := g.State()
	state.Tenants[0].Keys[0].Text = ""
	if !reflect.DeepEqual(g.State(), before) {
		t.Error("the gateway shares its state")
	}
}
