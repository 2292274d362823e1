package policy

import (
	"math/rand"
	"slices"
	"strings"
	"testing"

	"porter/api"
	"porter/caveat"
)

// texts returns the policy of texts that are separated by semicolons.
func texts(t *testing.T, s string) *Policy {
	t.Helper()
	var l []string
	if s != "" {
		l = strings.Split(s, "; ")
	}
	p, ok := Texts(l)
	if !ok || p == nil {
		t.Fatalf("Texts of %q: %v", l, ok)
	}
	return p
}

func TestOfAndTexts(t *testing.T) { // 28.1
	good := api.Caveat{Kind: api.CTenant, Words: []string{"acme"}}
	if p := Of([]api.Caveat{good, good}); p == nil || p.Long() != 2 {
		t.Error("valid caveats have no policy")
	}
	if p := Of(nil); p == nil || p.Long() != 0 || !p.Allows(api.Facts{}) {
		t.Error("no caveats have no policy")
	}
	for _, bad := range []api.Caveat{{}, {Kind: api.CTenant}, {Kind: api.CBefore, Num: -1}} {
		if Of([]api.Caveat{good, bad}) != nil || Of([]api.Caveat{bad, good}) != nil {
			t.Errorf("the invalid caveat %v has a policy", bad)
		}
	}
	if p, ok := Texts(nil); p == nil || !ok || p.Long() != 0 {
		t.Error("no texts have no policy")
	}
	for _, l := range [][]string{{""}, {"before 9", "after 01"}, {"tenant A", "before 9"}, {`match {a="\x41"}`}} {
		if p, ok := Texts(l); p != nil || ok {
			t.Errorf("Texts(%q) has a policy", l)
		}
	}
}

func TestAllows(t *testing.T) { // 28.2
	p := texts(t, "tenant acme; endpoint query series; before 9; after 7; do query; match {a=\"1\"}")
	f := api.Facts{Tenant: "acme", Endpoint: "query", Class: "any", Do: 1, Now: 8}
	if !p.Allows(f) {
		t.Error("the facts are refused")
	}
	for i, change := range []func(*api.Facts){func(f *api.Facts) { f.Tenant = "x" }, func(f *api.Facts) { f.Endpoint = "x" }, func(f *api.Facts) { f.Now = 9 }, func(f *api.Facts) { f.Now = 6 }, func(f *api.Facts) { f.Do = 2 }} {
		g := f
		change(&g)
		if p.Allows(g) {
			t.Errorf("other facts (%d) are allowed", i)
		}
	}
}

func TestSelWindowLong(t *testing.T) { // 28.2
	for _, c := range []struct {
		s          string
		sel        string
		from, till int
		long       int
	}{
		{"", "", 0, 1<<40 + 1, 0}, {"after 7; before 9; endpoint a b; endpoint b c", "", 7, 9, 4}, {"before 9; before 5; before 7", "", 0, 5, 3}, {"after 1; after 1099511627776; after 3", "", 1 << 40, 1<<40 + 1, 3}, {"before 0", "", 0, 0, 1}, {"before 5; after 9", "", 9, 5, 2},
		{`match {b="1", a="2"}; tenant x; match {}; match {b="1"}`, "b=1 a=2 b=1", 0, 1<<40 + 1, 4},
	} {
		p := texts(t, c.s)
		var names []string
		for _, m := range p.Sel() {
			names = append(names, m.Name+"="+m.Value)
		}
		from, till := p.Window()
		if strings.Join(names, " ") != c.sel || from != c.from || till != c.till || p.Long() != c.long {
			t.Errorf("%q: %v, %d to %d, %d", c.s, names, from, till, p.Long())
		}
	}
}

func TestPoliciesThatWereNotMade(t *testing.T) { // 28.2, 28.3
	for _, p := range []*Policy{nil, {}} {
		from, till := p.Window()
		f, some := p.Some()
		if p.Allows(api.Facts{}) || len(p.Sel()) != 0 || from != 0 || till != 0 || p.Long() != 0 || some || f != (api.Facts{}) {
			t.Errorf("%v does something", p)
		}
	}
}

func TestSome(t *testing.T) { // 28.3
	for _, c := range []struct {
		s    string
		want api.Facts
		some bool
	}{
		{"", api.Facts{Do: 1}, true}, {"endpoint a b; endpoint b c; after 7; before 9", api.Facts{Endpoint: "b", Do: 1, Now: 7}, true}, {"do write", api.Facts{Do: 2}, true}, {"do write query", api.Facts{Do: 1}, true}, {"do write query; do write", api.Facts{Do: 2}, true}, {"do query; do write", api.Facts{}, false},
		{"tenant b; tenant b", api.Facts{Tenant: "b", Do: 1}, true}, {"tenant a; tenant b", api.Facts{}, false}, {"class b a-a a; class a b a-a", api.Facts{Class: "a", Do: 1}, true}, {"class b a; class c", api.Facts{}, false}, {"endpoint a; class b; endpoint c; class b", api.Facts{}, false}, {"endpoint c a b; endpoint c b; endpoint b c d", api.Facts{Endpoint: "b", Do: 1}, true},
		{"before 0", api.Facts{}, false}, {"before 5; after 5", api.Facts{}, false}, {"before 6; after 5", api.Facts{Do: 1, Now: 5}, true}, {"after 1099511627776", api.Facts{Do: 1, Now: 1 << 40}, true}, {"after 1099511627776; before 1099511627776", api.Facts{}, false}, {`match {a="1", a="2"}`, api.Facts{Do: 1}, true},
	} {
		p := texts(t, c.s)
		f, some := p.Some()
		if f != c.want || some != c.some {
			t.Errorf("Some of %q is %v, %v", c.s, f, some)
		}
		if some && !p.Allows(f) {
			t.Errorf("Some of %q is not allowed", c.s)
		}
	}
}

func TestProperties(t *testing.T) { // 28.4
	r := rand.New(rand.NewSource(28))
	caveats := []string{"tenant a", "tenant b", "endpoint a b", "endpoint b c", "endpoint a c", "class a", "class b a", "do query", "do write", "do write query", "before 1", "before 3", "after 0", "after 2", "match {}"}
	words := []string{"", "a", "b", "c"}
	for range 3000 {
		var l []string
		for range r.Intn(5) {
			l = append(l, caveats[r.Intn(len(caveats))])
		}
		p, _ := Texts(l)
		some, any := p.Some()
		k := r.Intn(len(l) + 1)
		subset, _ := Texts(slices.Concat(l[:k], l[min(k+1, len(l)):]))
		for range 100 {
			f := api.Facts{Tenant: words[r.Intn(4)], Endpoint: words[r.Intn(4)], Class: words[r.Intn(4)], Do: 1 + r.Intn(2), Now: r.Intn(4)}
			if !p.Allows(f) {
				continue
			}
			if !subset.Allows(f) {
				t.Fatalf("a subset of %q does not allow %v", l, f)
			}
			if !any {
				t.Fatalf("%q allows %v, but Some finds nothing", l, f)
			}
			if f.Do < some.Do || f.Now < some.Now || f.Tenant < some.Tenant || f.Endpoint < some.Endpoint || f.Class < some.Class {
				t.Fatalf("Some of %q is %v, but %v is less", l, some, f)
			}
		}
	}
}

func TestNothingIsShared(t *testing.T) {
	c, _ := caveat.Parse("tenant acme")
	m, _ := caveat.Parse(`match {a="1"}`)
	p := Of([]api.Caveat{c, m})
	c.Words[0], m.Sel[0].Value = "other", "2"
	p.Sel()[0].Name = "z"
	if !p.Allows(api.Facts{Tenant: "acme"}) || p.Sel()[0] != (api.Matcher{Name: "a", Op: api.Is, Value: "1"}) {
		t.Error("the policy shares memory")
	}
}
