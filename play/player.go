package play

import (
	"slices"

	"porter/api"
	"porter/gate"
	"porter/holder"
	"porter/notary"
	"porter/request"
	"porter/rootid"
)

// purse keeps the hands of a scenario, numbered in the order in which they are kept.
type purse struct {
	keep func(t api.Token)
	find func(number int) (api.Token, bool)
	all  func() []api.Token
}

func newPurse() purse {
	hands := map[int]api.Token{}
	return purse{
		keep: func(t api.Token) {
			// A copy, since a hand may be made of an earlier one, or be part of a reply.
			t.Links = slices.Clone(t.Links)
			hands[len(hands)] = t
		},
		find: func(number int) (api.Token, bool) {
			t, ok := hands[number]
			return t, ok
		},
		all: func() []api.Token {
			l := make([]api.Token, len(hands))
			for number := range l {
				l[number] = hands[number]
			}
			return l
		},
	}
}

// usable returns an earlier hand that has a tag.
func (p purse) usable(number int) (api.Token, bool) {
	t, ok := p.find(number)
	if !ok || t.Tag == "" {
		return api.Token{}, false
	}
	return t, true
}

// player executes acts.
type player struct {
	gate  *gate.Gate
	hands purse
}

// act executes an act, and returns its hand and its reply.
func (p player) act(a api.Act) (api.Token, api.Reply) {
	if a.Kind == api.ADo {
		r := p.gate.Do(a.Op)
		return r.Token, r
	}
	t, ok := p.hands.usable(a.Of)
	if !ok {
		return api.Token{}, api.Reply{}
	}
	if a.Kind == api.AAsk || a.Kind == api.ALoose {
		return api.Token{}, p.ask(a, t)
	}
	return p.made(a, t), api.Reply{}
}

// ask asks the gateway, with a token and the hands that are its discharges.
func (p player) ask(a api.Act, t api.Token) api.Reply {
	var more []api.Token
	for _, number := range a.More {
		discharge, _ := p.hands.find(number)
		more = append(more, discharge)
	}
	q := a.Ask
	q.Bundle = api.Bundle{Token: t, More: more}
	if a.Kind == api.AAsk {
		q.Bundle = holder.Bundle(t, more...)
	}
	text, e := request.Put(q)
	if e != api.OK {
		return api.Reply{Code: e}
	}
	return p.gate.Do(api.Op{Kind: api.OAsk, Text: text})
}

// made returns what is made of a token, or the zero token if that cannot be.
func (p player) made(a api.Act, t api.Token) api.Token {
	switch a.Kind {
	case api.AAdd:
		return orZero(holder.Add(t, a.Text))
	case api.AThird:
		return third(a, t)
	case api.ADischarge:
		return discharge(a, t)
	case api.ACut:
		return cut(t)
	case api.ASwap:
		with, ok := p.hands.usable(a.With)
		return tagged(t, with.Tag, ok)
	case api.AJunk:
		return tagged(t, a.Text, len(a.Text) == api.TagSize)
	case api.ARoot:
		return rooted(t, a.Root)
	}
	return api.Token{}
}

func orZero(t api.Token, e api.Errno) api.Token {
	if e != api.OK {
		return api.Token{}
	}
	return t
}

// third adds a third-party caveat for a notary.
func third(a api.Act, t api.Token) api.Token {
	key := Notary(a.With)
	if key == "" || len(a.Key) != keySize {
		return api.Token{}
	}
	ticket, e := notary.Ticket(key, a.Nonce, a.Key, a.Text)
	if e != api.OK {
		return api.Token{}
	}
	return orZero(holder.Third(t, ticket, a.Key, a.Nonce))
}

// discharge returns a notary's discharge for the last third-party link.
func discharge(a api.Act, t api.Token) api.Token {
	key := Notary(a.With)
	if key == "" {
		return api.Token{}
	}
	for i := len(t.Links) - 1; i >= 0; i-- {
		if l := t.Links[i]; l.Seal != "" {
			return orZero(notary.Discharge(key, l.Text, a.Words...))
		}
	}
	return api.Token{}
}

func cut(t api.Token) api.Token {
	if len(t.Links) == 0 {
		return api.Token{}
	}
	t.Links = t.Links[:len(t.Links)-1]
	return t
}

// tagged returns the token with another tag, if that may be.
func tagged(t api.Token, tag string, ok bool) api.Token {
	if !ok {
		return api.Token{}
	}
	t.Tag = tag
	return t
}

// rooted returns the token with the encoding of a root as its ID.
func rooted(t api.Token, r api.Root) api.Token {
	id, e := rootid.Put(r)
	if e != api.OK {
		return api.Token{}
	}
	t.ID = id
	return t
}
