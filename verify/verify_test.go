package verify

import (
	"fmt"
	"math/rand"
	"slices"
	"strings"
	"testing"

	"porter/api"
	"porter/chain"
	"porter/holder"
	"porter/notary"
)

const nonce = "0123456789abcdef"

var (
	key     = strings.Repeat("k", 32)
	notaryA = strings.Repeat("a", 32)
	notaryB = strings.Repeat("b", 32)
	inner   = strings.Repeat("i", 32)
)

// token returns a token with first-party links.
func token(texts ...string) api.Token {
	t := api.Token{ID: "id"}
	for _, text := range texts {
		t.Links = append(t.Links, api.Link{Text: text})
	}
	t.Tag = chain.Last(key, t)
	return t
}

// third adds a third-party link for a notary.
func third(t *testing.T, tok api.Token, by, text string) api.Token {
	t.Helper()
	ticket, e := notary.Ticket(by, nonce, inner, text)
	got, f := holder.Third(tok, ticket, inner, nonce)
	if e != api.OK || f != api.OK {
		t.Fatalf("errors %d, %d", e, f)
	}
	return got
}

// discharge returns a discharge for the last link of a token.
func discharge(t *testing.T, tok api.Token, by string, caveats ...string) api.Token {
	t.Helper()
	d, e := notary.Discharge(by, tok.Links[len(tok.Links)-1].Text, caveats...)
	if e != api.OK {
		t.Fatalf("error %d", e)
	}
	return d
}

func check(t *testing.T, what string, b api.Bundle, e api.Errno, work int, want ...string) {
	t.Helper()
	got, f := Verify(key, b)
	if f != e || !slices.Equal(got, want) {
		t.Errorf("%s: %q, error %d, want %q, error %d", what, got, f, want, e)
	}
	if w := Work(key, b); w != work || w > Most(b) {
		t.Errorf("%s: work %d, want %d, most %d", what, w, work, Most(b))
	}
}

func TestTokenAlone(t *testing.T) { // 37.1, 37.2
	check(t, "no links", api.Bundle{Token: token()}, api.OK, 1)
	check(t, "two links", api.Bundle{Token: token("a", "b")}, api.OK, 3, "a", "b")
	for what, change := range map[string]func(*api.Token){
		"other ID": func(x *api.Token) { x.ID = "ie" }, "changed text": func(x *api.Token) { x.Links[1].Text = "c" }, "removed link": func(x *api.Token) { x.Links = x.Links[:1] }, "no links": func(x *api.Token) { x.Links = nil },
		"other order": func(x *api.Token) { x.Links[0], x.Links[1] = x.Links[1], x.Links[0] }, "changed tag": func(x *api.Token) { x.Tag = "x" + x.Tag[1:] }, "short tag": func(x *api.Token) { x.Tag = x.Tag[1:] }, "no tag": func(x *api.Token) { x.Tag = "" }, "long tag": func(x *api.Token) { x.Tag += "x" },
		"a seal": func(x *api.Token) { x.Links[1].Seal = "s" }, "additional link": func(x *api.Token) { x.Links = append(x.Links, api.Link{}) },
	} {
		x := token("a", "b")
		change(&x)
		check(t, what, api.Bundle{Token: x}, api.ErrTag, len(x.Links)+1)
	}
	if _, e := Verify("other", api.Bundle{Token: token()}); e != api.ErrTag {
		t.Errorf("with another key: error %d", e)
	}
}

func TestLimits(t *testing.T) { // 37.1, 37.2
	long := func(n int) api.Token { return token(slices.Repeat([]string{"x"}, n)...) }
	check(t, "64 links", api.Bundle{Token: long(64)}, api.OK, 65, slices.Repeat([]string{"x"}, 64)...)
	for what, b := range map[string]api.Bundle{
		"65 links": {Token: long(65)}, "9 discharges": {Token: token(), More: make([]api.Token, 9)}, "a discharge of 65 links": {Token: token(), More: []api.Token{{}, long(65)}}, "a wrong tag too": {Token: api.Token{}, More: make([]api.Token, 9)},
	} {
		if got, e := Verify(key, b); e != api.ErrLimit || len(got) != 0 || Work(key, b) != 0 {
			t.Errorf("%s: error %d, work %d", what, e, Work(key, b))
		}
	}
}

func TestDischarges(t *testing.T) { // 37.1, 37.2
	tok := third(t, token("a"), notaryA, "monday")
	d := discharge(t, tok, notaryA, "x", "y")
	after, _ := holder.Add(tok, "b")
	check(t, "a discharge", holder.Bundle(tok, d), api.OK, 3+1+3+1, "a", "x", "y")
	check(t, "caveats of the discharge come last", holder.Bundle(after, d), api.OK, 4+1+3+1, "a", "b", "x", "y")
	check(t, "none", holder.Bundle(tok), api.ErrDischarge, 3+1)
	check(t, "not bound", api.Bundle{Token: tok, More: []api.Token{d}}, api.ErrDischarge, 3+1+3+1)
	check(t, "bound to another token", api.Bundle{Token: tok, More: []api.Token{holder.Bind(after, d)}}, api.ErrDischarge, 3+1+3+1)
	check(t, "bound twice", api.Bundle{Token: tok, More: []api.Token{holder.Bind(tok, holder.Bind(tok, d))}}, api.ErrDischarge, 3+1+3+1)
	check(t, "twice", holder.Bundle(tok, d, d), api.ErrDischarge, 3+1+3+1)
	check(t, "one too many", holder.Bundle(token("a"), d), api.ErrDischarge, 2)
	check(t, "wrong token with discharges", api.Bundle{Token: api.Token{ID: "id"}, More: []api.Token{d}}, api.ErrTag, 1)
	other := d
	other.ID = "other"
	check(t, "another ID", holder.Bundle(tok, other), api.ErrDischarge, 3+1)
	cut := d
	cut.Links = d.Links[:1]
	check(t, "a link less", holder.Bundle(tok, cut), api.ErrDischarge, 3+1+2+1)
	longer, _ := holder.Add(d, "z")
	check(t, "a link more", holder.Bundle(tok, longer), api.OK, 3+1+4+1, "a", "x", "y", "z")
	check(t, "the first one with the ID is used", holder.Bundle(tok, cut, d), api.ErrDischarge, 3+1+2+1)
	// A seal that the tag before it does not open.
	bad := token("a")
	bad.Links = append(bad.Links, api.Link{Text: tok.Links[1].Text, Seal: "seal"})
	bad.Tag = chain.Last(key, bad)
	check(t, "a seal that is no box", holder.Bundle(bad, d), api.ErrDischarge, 3+1)
	bad.Links[1].Seal = tok.Links[1].Seal
	bad.Links[0].Text = "b"
	bad.Tag = chain.Last(key, bad)
	check(t, "a seal of another tag", holder.Bundle(bad, d), api.ErrDischarge, 3+1)
}

// TestSealsWithoutDischarges: a third-party link is never passed over.
func TestSealsWithoutDischarges(t *testing.T) { // 37.1
	for _, seal := range []string{"seal", strings.Repeat("s", 48), third(t, token("a"), notaryA, "x").Links[1].Seal} {
		bad := token("b")
		bad.Links = append(bad.Links, api.Link{Text: "t", Seal: seal})
		bad.Tag = chain.Last(key, bad)
		check(t, "a seal that is not opened", api.Bundle{Token: bad}, api.ErrDischarge, 3+1)
	}
}

func TestMostDischarges(t *testing.T) { // 37.1
	tok := token()
	var more []api.Token
	var want []string
	for i := range 8 {
		tok = third(t, tok, notaryA, fmt.Sprint("ticket", i))
		more = append(more, discharge(t, tok, notaryA, fmt.Sprint("d", i)))
		want = append(want, fmt.Sprint("d", i))
	}
	check(t, "8 discharges", holder.Bundle(tok, more...), api.OK, 9+8*(1+2+1), want...)
}

func TestSeveralDischarges(t *testing.T) { // 37.1, 37.2
	tok := third(t, token("a"), notaryA, "one")
	first := discharge(t, tok, notaryA, "x")
	tok = third(t, tok, notaryB, "two")
	second := discharge(t, tok, notaryB, "y", "z")
	tok, _ = holder.Add(tok, "b")
	for _, more := range [][]api.Token{{first, second}, {second, first}} {
		check(t, "two notaries", holder.Bundle(tok, more...), api.OK, 5+1+2+1+1+3+1, "a", "b", "x", "y", "z")
	}
	check(t, "the second one is missing", holder.Bundle(tok, first), api.ErrDischarge, 5+1+2+1+1)
	check(t, "the first one is missing", holder.Bundle(tok, second), api.ErrDischarge, 5+1)

	// The same ticket twice needs two discharges.
	twice := third(t, third(t, token(), notaryA, "same"), notaryA, "same")
	d := discharge(t, twice, notaryA, "x")
	check(t, "the same ticket twice", holder.Bundle(twice, d, d), api.OK, 3+1+2+1+1+2+1, "x", "x")
	check(t, "the same ticket twice with one discharge", holder.Bundle(twice, d), api.ErrDischarge, 3+1+2+1+1)

	// A discharge that needs a discharge.
	outer := third(t, token("a"), notaryA, "outer")
	needs := third(t, discharge(t, outer, notaryA, "x"), notaryB, "inner")
	within := discharge(t, needs, notaryB, "y")
	check(t, "a discharge of a discharge", holder.Bundle(outer, within, needs), api.OK, 3+1+3+1+1+2+1, "a", "x", "y")
	check(t, "a discharge of a discharge is missing", holder.Bundle(outer, needs), api.ErrDischarge, 3+1+3+1+1)
	check(t, "a discharge of no discharge", holder.Bundle(outer, within), api.ErrDischarge, 3+1)
}

func TestMost(t *testing.T) { // 37.2
	sealed := api.Link{Text: "t", Seal: "s"}
	for i, c := range []struct {
		b    api.Bundle
		want int
	}{
		{api.Bundle{}, 1}, {api.Bundle{Token: token("a", "b")}, 3}, {api.Bundle{Token: api.Token{Links: []api.Link{sealed, {}}}}, 4}, {api.Bundle{More: make([]api.Token, 20)}, 41}, {api.Bundle{Token: token("a"), More: []api.Token{{Links: []api.Link{sealed, sealed}}, {}}}, 2 + 3 + 1 + 2 + 2}, {api.Bundle{Token: api.Token{Links: slices.Repeat([]api.Link{sealed}, 100)}}, 201},
	} {
		if got := Most(c.b); got != c.want {
			t.Errorf("case %d: Most is %d, want %d", i, got, c.want)
		}
	}
}

// honest assembles a bundle at random, and returns all caveats that were added.
func honest(t *testing.T, r *rand.Rand) (api.Bundle, []string) {
	tok, own := token(), []string(nil)
	var more []api.Token
	var theirs []string
	for i := range r.Intn(7) {
		if r.Intn(3) > 0 || len(more) == 8 {
			text := fmt.Sprint("c", i)
			tok, _ = holder.Add(tok, text)
			own = append(own, text)
			continue
		}
		tok = third(t, tok, notaryA, fmt.Sprint("ticket", i))
		text := fmt.Sprint("d", i)
		more = append(more, discharge(t, tok, notaryA, text))
		theirs = append(theirs, text)
	}
	return holder.Bundle(tok, more...), append(own, theirs...)
}

func TestProperties(t *testing.T) { // 37.3
	r := rand.New(rand.NewSource(37))
	for range 500 {
		b, caveats := honest(t, r)
		got, e := Verify(key, b)
		if e != api.OK || !slices.Equal(got, caveats) || Work(key, b) != Most(b) {
			t.Fatalf("%v: %q, error %d, want %q", b, got, e, caveats)
		}
		// Any change of the token is noticed.
		changed := b
		changed.Token.Links = slices.Clone(b.Token.Links)
		switch n := len(changed.Token.Links); {
		case n == 0 || r.Intn(3) == 0:
			changed.Token.ID += "x"
		case r.Intn(2) == 0:
			i := r.Intn(n)
			changed.Token.Links = slices.Delete(changed.Token.Links, i, i+1)
		default:
			changed.Token.Links[r.Intn(n)].Text += "x"
		}
		if got, e := Verify(key, changed); e != api.ErrTag || len(got) != 0 || Work(key, changed) > Most(changed) {
			t.Fatalf("the changed token %v is accepted: error %d", changed, e)
		}
	}
}
