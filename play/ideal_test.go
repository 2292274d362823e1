package play

import (
	"fmt"
	"math/rand"
	"slices"
	"strconv"
	"strings"
	"testing"

	"porter/api"
	"porter/caveat"
	"porter/labels"
	"porter/plan"
	"porter/policy"
	"porter/rate"
	"porter/reply"
	"porter/rewrite"
	"porter/ring"
	"porter/rootid"
	"porter/selector"
)

// ideal is a gateway with ideal tags: a tag, a seal and a ticket is a name for what it was made of. All that does not
// concern tags is computed by the layers themselves.
type ideal struct {
	state  api.State
	rates  *rate.Rates
	now    int
	names  map[string]string   // of what was made of some parts
	parts  map[string][]string // what a name stands for
	hands  []api.Token         // with names in the place of tags, seals and tickets
	passed []passed
}

// passed is a request that was accepted.
type passed struct {
	key, id string
	links   []api.Link
	texts   []string
	ask     api.Request
	now     int
	sel     []api.Matcher
}

func newIdeal(c api.Config) *ideal {
	rates, _ := rate.New(c.Classes, 0)
	return &ideal{rates: rates, names: map[string]string{}, parts: map[string][]string{}}
}

// name returns the name of what is made of some parts.
func (m *ideal) name(parts ...string) string {
	whole := fmt.Sprintf("%q", parts)
	if _, known := m.names[whole]; !known {
		n := "#" + strconv.Itoa(len(m.names))
		m.names[whole], m.parts[n] = n, parts
	}
	return m.names[whole]
}

// is returns the parts of what has a name, if it is of a kind.
func (m *ideal) is(kind, name string) ([]string, bool) {
	parts := m.parts[name]
	if len(parts) == 0 || parts[0] != kind {
		return nil, false
	}
	return parts[1:], true
}

func (m *ideal) next(tag string, l api.Link) string {
	if l.Seal == "" {
		return m.name("first", tag, l.Text)
	}
	return m.name("third", tag, l.Seal, l.Text)
}

func (m *ideal) last(key string, t api.Token) string {
	tag := m.name("root", key, t.ID)
	for _, l := range t.Links {
		tag = m.next(tag, l)
	}
	return tag
}

func (m *ideal) usable(number int) (api.Token, bool) {
	if number < 0 || number >= len(m.hands) || m.hands[number].Tag == "" {
		return api.Token{}, false
	}
	return m.hands[number], true
}

// act executes an act.
func (m *ideal) act(a api.Act) api.Reply {
	hand, r := api.Token{}, api.Reply{}
	switch t, ok := m.usable(a.Of); {
	case a.Kind == api.ADo:
		r = m.do(a.Op)
		hand = r.Token
	case !ok:
	case a.Kind == api.AAsk || a.Kind == api.ALoose:
		r = m.ask(a, t)
	default:
		hand = m.made(a, t)
	}
	m.hands = append(m.hands, hand)
	return r
}

func (m *ideal) with(t api.Token, l api.Link) api.Token {
	if len(t.Links) >= api.MaxLinks {
		return api.Token{}
	}
	t.Links = append(slices.Clone(t.Links), l)
	t.Tag = m.next(t.Tag, l)
	return t
}

func (m *ideal) made(a api.Act, t api.Token) api.Token {
	switch a.Kind {
	case api.AAdd:
		return m.with(t, api.Link{Text: a.Text})
	case api.AThird:
		ticket := m.name("ticket", Notary(a.With), a.Nonce, a.Key, a.Text)
		return m.with(t, api.Link{Text: ticket, Seal: m.name("seal", t.Tag, a.Nonce, a.Key)})
	case api.ADischarge:
		for i := len(t.Links) - 1; i >= 0; i-- {
			if t.Links[i].Seal == "" {
				continue
			}
			parts, ok := m.is("ticket", t.Links[i].Text)
			if !ok || parts[0] != Notary(a.With) {
				return api.Token{}
			}
			d := api.Token{ID: t.Links[i].Text}
			d.Tag = m.name("root", parts[2], d.ID)
			for _, text := range a.Words {
				d = m.with(d, api.Link{Text: text})
			}
			return d
		}
		return api.Token{}
	case api.ACut:
		if len(t.Links) == 0 {
			return api.Token{}
		}
		t.Links = t.Links[:len(t.Links)-1]
		return t
	case api.ASwap:
		if other, ok := m.usable(a.With); ok {
			t.Tag = other.Tag
			return t
		}
	case api.AJunk:
		t.Tag = a.Text
		return t
	case api.ARoot:
		id, e := rootid.Put(a.Root)
		if e == api.OK {
			t.ID = id
			return t
		}
	}
	return api.Token{}
}

func (m *ideal) do(op api.Op) api.Reply {
	var l []api.Event
	var e api.Errno
	num := func() int { return 0 }
	switch op.Kind {
	case api.OTenant:
		l, e = plan.Tenant(m.state, op.Tenant, op.Text)
		num = func() int { return 1 }
	case api.ORotate:
		l, e = plan.Rotate(m.state, op.Tenant, op.Text)
		num = func() int { return l[1].Num }
	case api.ORetire:
		l, e = plan.Retire(m.state, op.Tenant, op.Num)
	case api.ORevoke:
		l, e = plan.Revoke(m.state, op.Tenant)
		num = func() int { return l[0].Epoch }
	case api.OMint:
		return m.mint(op)
	case api.OTick:
		m.now += op.Num
		return api.Reply{Num: m.now}
	case api.OPower:
		m.rates.Begin(m.now)
	}
	if e != api.OK {
		return api.Reply{Code: e}
	}
	m.state, _ = ring.All(m.state, l)
	return api.Reply{Num: num()}
}

func (m *ideal) mint(op api.Op) api.Reply {
	for _, text := range op.Words {
		if _, ok := caveat.Parse(text); !ok {
			return api.Reply{Code: api.ErrCaveat}
		}
	}
	l, e := plan.Mint(m.state, op.Tenant)
	if e != api.OK {
		return api.Reply{Code: e}
	}
	m.state, _ = ring.All(m.state, l)
	newest, _ := ring.Newest(m.state, op.Tenant)
	id, _ := rootid.Put(api.Root{Tenant: op.Tenant, Key: newest.Num, Epoch: m.state.Tenants[ring.Find(m.state, op.Tenant)].Epoch, Serial: l[0].Num})
	t := api.Token{ID: id}
	for _, text := range op.Words {
		t.Links = append(t.Links, api.Link{Text: text})
	}
	t.Tag = m.last(newest.Text, t)
	return api.Reply{Num: l[0].Num, Token: t}
}

func (m *ideal) ask(a api.Act, t api.Token) api.Reply {
	var more []api.Token
	for _, number := range a.More {
		d := api.Token{}
		if number >= 0 && number < len(m.hands) {
			d = m.hands[number]
		}
		if a.Kind == api.AAsk {
			d.Tag = m.name("bind", t.Tag, d.Tag)
		}
		more = append(more, d)
	}
	for _, d := range more {
		if d.Tag == "" {
			return api.Reply{Code: api.ErrArg}
		}
	}
	root, e := rootid.Get(t.ID)
	if e != api.OK {
		return api.Reply{Code: api.ErrForm}
	}
	key, ok := ring.Key(m.state, root.Tenant, root.Key)
	if !ok {
		return api.Reply{Code: api.ErrKey}
	}
	texts, e := m.verify(key, t, more)
	if e != api.OK {
		return api.Reply{Code: e}
	}
	if root.Epoch < m.state.Tenants[ring.Find(m.state, root.Tenant)].Epoch {
		return api.Reply{Code: api.ErrEpoch}
	}
	p, ok := policy.Texts(texts)
	if !ok {
		return api.Reply{Code: api.ErrCaveat}
	}
	q := a.Ask
	if q.Tenant != root.Tenant || !p.Allows(api.Facts{Tenant: q.Tenant, Endpoint: q.Endpoint, Class: q.Class, Do: q.Do, Now: m.now}) {
		return api.Reply{Code: api.ErrDenied}
	}
	var sel []api.Matcher
	if q.Do == api.Query {
		if sel, e = rewrite.Emit(q.Sel, p.Sel()); e != api.OK {
			return api.Reply{Code: e}
		}
	} else if !selector.Holds(p.Sel(), q.Series) {
		return api.Reply{Code: api.ErrSeries}
	}
	if e := m.rates.Take(q.Tenant, q.Class, m.now); e != api.OK {
		return api.Reply{Code: e}
	}
	m.passed = append(m.passed, passed{key: key, id: t.ID, links: t.Links, texts: texts, ask: q, now: m.now, sel: sel})
	return api.Reply{Sel: sel}
}

// verify is the verification of a bundle, with names.
func (m *ideal) verify(key string, t api.Token, more []api.Token) ([]string, api.Errno) {
	if m.last(key, t) != t.Tag {
		return nil, api.ErrTag
	}
	used := make([]bool, len(more))
	list, keys := []api.Token{t}, []string{key}
	var texts []string
	for i := 0; i < len(list); i++ {
		for k, l := range list[i].Links {
			if l.Seal == "" {
				texts = append(texts, l.Text)
				continue
			}
			before := m.last(keys[i], api.Token{ID: list[i].ID, Links: list[i].Links[:k]})
			seal, ok := m.is("seal", l.Seal)
			at := -1
			for n, d := range more {
				if d.ID == l.Text && !used[n] && at < 0 {
					at = n
				}
			}
			if !ok || seal[0] != before || at < 0 || more[at].Tag != m.name("bind", t.Tag, m.last(seal[2], more[at])) {
				return nil, api.ErrDischarge
			}
			used[at] = true
			list, keys = append(list, more[at]), append(keys, seal[2])
		}
	}
	if slices.Contains(used, false) {
		return nil, api.ErrDischarge
	}
	return texts, api.OK
}

// scenario returns acts at random, most of which make sense.
func scenario(r *rand.Rand, n int) []api.Act {
	acts := []api.Act{tenant("acme"), mint("acme"), tenant("b"), mint("b", "tenant b"), tick(1)}
	caveats := []string{"endpoint query", "endpoint query series", "class gold", "do query", "before 9", "before 30", "after 0", `match {env="prod"}`, `match {job=~"a.*|b"}`, `match {env=~"prod|dev", job!="b"}`, "nonsense", "tenant acme"}
	names := []string{"acme", "acme", "b", "c"}
	recent := func() int { return len(acts) - 1 - r.Intn(min(len(acts), 7)) }
	any := func() int { return r.Intn(len(acts)+2) - 1 }
	hand := func() int {
		if r.Intn(4) == 0 {
			return any()
		}
		return recent()
	}
	for len(acts) < n {
		a := api.Act{Kind: 1 + r.Intn(10), Of: hand(), With: r.Intn(3), Text: caveats[r.Intn(len(caveats))], Key: []string{inner, key}[r.Intn(2)], Nonce: nonce}
		switch a.Kind {
		case api.ADo:
			name := names[r.Intn(len(names))]
			a.Op = []api.Op{{Kind: api.OMint, Tenant: name}, {Kind: api.OMint, Tenant: name, Words: []string{caveats[r.Intn(len(caveats))]}}, {Kind: api.OTick, Num: r.Intn(4)}, {Kind: api.ORotate, Tenant: name, Text: []string{key, other}[r.Intn(2)]}, {Kind: api.ORetire, Tenant: name, Num: r.Intn(4)}, {Kind: api.ORevoke, Tenant: name}, {Kind: api.OTenant, Tenant: name, Text: key}, {Kind: api.OCompact}, {Kind: api.OPower}}[max(r.Intn(14)-5, 0)]
		case api.ADischarge:
			a.Words = []string{"before 9", caveats[r.Intn(len(caveats))]}[:r.Intn(3)]
		case api.ASwap:
			a.With = hand()
		case api.AJunk:
			a.Text = []string{key, other}[r.Intn(2)]
		case api.ARoot:
			a.Root = api.Root{Tenant: names[r.Intn(len(names))], Key: r.Intn(3), Epoch: r.Intn(3), Serial: r.Intn(9)}
		case api.AAsk, api.ALoose:
			a.Ask = query(r)
			for range r.Intn(6) / 2 {
				a.More = append(a.More, hand())
			}
		}
		acts = append(acts, a)
		if r.Intn(3) == 0 { // an honest holder: a caveat, a third party, its discharge, a question
			of := len(acts) - 1
			acts = append(acts, api.Act{Kind: api.AAdd, Of: []int{1, 3, of}[r.Intn(3)], Text: caveats[r.Intn(len(caveats))]}, api.Act{Kind: api.AThird, Of: of + 1, With: 1, Text: "monday", Key: inner, Nonce: nonce}, api.Act{Kind: api.ADischarge, Of: of + 2, With: 1, Words: []string{caveats[r.Intn(len(caveats))]}}, api.Act{Kind: api.AAsk, Of: of + 2, More: []int{of + 3}, Ask: query(r)}, api.Act{Kind: api.AAsk, Of: of + 1, Ask: query(r)})
		}
	}
	return acts
}

// query returns what is asked, at random.
func query(r *rand.Rand) api.Request {
	q := api.Request{Tenant: []string{"acme", "acme", "b"}[r.Intn(3)], Endpoint: []string{"query", "series"}[r.Intn(2)], Class: []string{"gold", "gold", "silver", "none"}[r.Intn(4)], Do: 1 + r.Intn(2)}
	if q.Do == api.Query {
		q.Sel, _ = selector.Parse([]string{"{}", `{job=~"a.*"}`, `{env!="prod"}`, `{job="b", x=~"y"}`}[r.Intn(4)])
		return q
	}
	q.Series, _ = labels.Parse([]string{"{}", `{env="prod"}`, `{env="prod", job="ab"}`, `{env="dev", job="b"}`}[r.Intn(4)])
	return q
}

func limited() api.Config {
	return api.Config{Blocks: 190, Classes: []api.Class{{Name: "gold", Cap: 30, Fill: 20}, {Name: "silver", Cap: 2, Fill: 1}}}
}

// TestLikeIdealTags: the replies are those of a gateway with ideal tags, and what it accepts is right.
func TestLikeIdealTags(t *testing.T) { // P1 to P4, 50.1
	r := rand.New(rand.NewSource(50))
	counts := make([]int, 22)
	for round := range 300 {
		acts := scenario(r, 60)
		p := run(t, Script{Config: limited(), Acts: acts})
		m := newIdeal(limited())
		for i, a := range acts {
			want := m.act(a)
			got := p.Replies[i]
			if reply.Line(got) != reply.Line(want) {
				t.Fatalf("round %d, act %d, %v: %s, want %s", round, i, a, reply.Line(got), reply.Line(want))
			}
			if hand := m.hands[i]; zero(hand) != zero(p.Hands[i]) || len(hand.Links) != len(p.Hands[i].Links) {
				t.Fatalf("round %d, act %d, %v: hand %v, want %v", round, i, a, p.Hands[i], hand)
			}
		}
		if fmt.Sprint(p.State) != fmt.Sprint(m.state) || p.Now != m.now {
			t.Fatalf("round %d: the end is %v at %d, want %v at %d", round, p.State, p.Now, m.state, m.now)
		}
		for i, n := range Count(p.Replies) {
			counts[i] += n
		}
		for _, x := range m.passed {
			checkPassed(t, m, x)
		}
	}
	for _, code := range []api.Errno{api.OK, api.ErrTag, api.ErrKey, api.ErrEpoch, api.ErrDischarge, api.ErrCaveat, api.ErrDenied, api.ErrEmpty, api.ErrSeries, api.ErrRate, api.ErrForm, api.ErrArg, api.ErrNone} {
		if counts[code] < 5 {
			t.Errorf("only %d replies are %s", counts[code], reply.Word(code))
		}
	}
}

// checkPassed checks that an accepted request was right by the tokens that were issued and by its caveats.
func checkPassed(t *testing.T, m *ideal, x passed) {
	t.Helper()
	// The links begin with those of an issued token with this ID.
	issued := false
	for _, hand := range m.hands {
		if hand.ID != x.id || len(hand.Links) > len(x.links) || !slices.Equal(hand.Links, x.links[:len(hand.Links)]) {
			continue
		}
		issued = issued || hand.Tag == m.last(x.key, hand)
	}
	if !issued {
		t.Fatalf("the accepted %v was not issued", x)
	}
	f := api.Facts{Tenant: x.ask.Tenant, Endpoint: x.ask.Endpoint, Class: x.ask.Class, Do: x.ask.Do, Now: x.now}
	var held []api.Matcher
	for _, text := range x.texts {
		c, ok := caveat.Parse(text)
		if !ok || !caveat.Allows(c, f) {
			t.Fatalf("%q does not allow %v", text, f)
		}
		held = append(held, c.Sel...)
	}
	if x.ask.Do == api.Write {
		if !selector.Holds(held, x.ask.Series) {
			t.Fatalf("%v does not hold for %v", held, x.ask.Series)
		}
		return
	}
	for _, env := range []string{"", "prod", "dev"} {
		for _, job := range []string{"", "a", "ab", "b", "c"} {
			for _, y := range []string{"", "y"} {
				l := []api.Label{{Name: "env", Value: env}, {Name: "job", Value: job}, {Name: "x", Value: y}}
				if selector.Holds(x.sel, l) != (selector.Holds(x.ask.Sel, l) && selector.Holds(held, l)) {
					t.Fatalf("%s is enforced for %s and %s", selector.Text(x.sel), selector.Text(x.ask.Sel), selector.Text(held))
				}
			}
		}
	}
}

// TestCrashes: whatever is lost, acknowledged changes stay, and no serial comes twice.
func TestCrashes(t *testing.T) { // P5 to P7, 50.1
	r := rand.New(rand.NewSource(51))
	counts := make([]int, 22)
	for round := range 300 {
		config := limited()
		config.Blocks = []int{4, 6, 12, 190}[r.Intn(4)]
		var crashes []api.Crash
		for range r.Intn(12) {
			crashes = append(crashes, api.Crash{At: r.Intn(25), Keep: r.Intn(130)})
		}
		var acts []api.Act
		for _, a := range scenario(r, 50) {
			acts = append(acts, a)
			if r.Intn(4) == 0 {
				acts = append(acts, do(api.Op{Kind: api.OPower}))
			}
		}
		p := run(t, Script{Config: config, Crashes: crashes, Acts: acts})
		checkCrashes(t, round, config, crashes, acts, p)
		for i, n := range Count(p.Replies) {
			counts[i] += n
		}
	}
	if counts[api.ErrDown] < 300 || counts[api.OK] < 3000 {
		t.Errorf("%d replies are down, %d ok", counts[api.ErrDown], counts[api.OK])
	}
}

func checkCrashes(t *testing.T, round int, c api.Config, crashes []api.Crash, acts []api.Act, p Played) {
	t.Helper()
	m := newIdeal(c)
	serials := map[int]bool{}
	accepted := map[string]int{}
	for i, a := range acts {
		before := m.state
		code := p.Replies[i].Code
		if a.Kind != api.ADo || a.Op.Kind == api.OAsk {
			asked := a.Of >= 0 && a.Of < i && p.Hands[a.Of].Tag != ""
			if code == api.OK && asked && (a.Kind == api.AAsk || a.Kind == api.ALoose) {
				accepted[a.Ask.Tenant+" "+a.Ask.Class]++
			}
			continue
		}
		if code == api.ErrFull {
			continue
		}
		if code == api.ErrDown {
			// What the state has become shows when the scenario ends here, with power.
			end, _ := Run(Script{Config: c, Crashes: crashes, Acts: append(slices.Clone(acts[:i+1]), do(api.Op{Kind: api.OPower}))})
			m.do(a.Op)
			done := fmt.Sprint(m.state) == fmt.Sprint(end.State)
			if !done && fmt.Sprint(before) != fmt.Sprint(end.State) && !strings.Contains(Lines(end.Replies[i+1:]), "down") {
				t.Fatalf("round %d, act %d: after %v the state is %v, before %v", round, i, a.Op, end.State, before)
			}
			m.state = end.State
			continue
		}
		if r := m.do(a.Op); r.Code != code || r.Num != p.Replies[i].Num && a.Op.Kind != api.OTick {
			t.Fatalf("round %d, act %d, %v: %s, want %s", round, i, a.Op, reply.Line(p.Replies[i]), reply.Line(r))
		}
		if serial := p.Replies[i].Num; a.Op.Kind == api.OMint && code == api.OK {
			if serials[serial] {
				t.Fatalf("round %d: the serial %d comes twice", round, serial)
			}
			serials[serial] = true
		}
	}
	if fmt.Sprint(m.state) != fmt.Sprint(p.State) {
		t.Fatalf("round %d: the end is %v, want %v", round, p.State, m.state)
	}
	for _, class := range c.Classes {
		for _, name := range []string{"acme", "b"} {
			if n := accepted[name+" "+class.Name]; n > class.Cap+p.Now*class.Fill {
				t.Fatalf("round %d: %d requests of %s within %d ticks", round, n, class.Name, p.Now)
			}
		}
	}
}

// TestPrefixes: what comes later does not change what was before.
func TestPrefixes(t *testing.T) { // 50.3
	r := rand.New(rand.NewSource(52))
	for range 20 {
		acts := scenario(r, 40)
		crashes := []api.Crash{{At: r.Intn(20), Keep: r.Intn(130)}}
		whole := run(t, Script{Config: limited(), Crashes: crashes, Acts: acts})
		for _, n := range []int{0, 1, r.Intn(len(acts)), len(acts) - 1} {
			p := run(t, Script{Config: limited(), Crashes: crashes, Acts: acts[:n]})
			if Lines(p.Replies) != Lines(whole.Replies[:n]) || !slices.EqualFunc(p.Hands, whole.Hands[:n], same) {
				t.Fatalf("the first %d acts have other replies or hands", n)
			}
		}
	}
}
