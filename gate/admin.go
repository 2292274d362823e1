package gate

import (
	"porter/api"
	"porter/caveat"
	"porter/chain"
	"porter/plan"
	"porter/ring"
	"porter/rootid"
)

// commit stores a plan, unless it is an error.
func (g *Gate) commit(l []api.Event, e api.Errno) api.Errno {
	if e != api.OK {
		return e
	}
	return g.noted(g.store.Commit(l))
}

// change stores a plan and replies with a number.
func (g *Gate) change(l []api.Event, e api.Errno, num func() int) api.Reply {
	if e := g.commit(l, e); e != api.OK {
		return api.Reply{Code: e}
	}
	return api.Reply{Num: num()}
}

func (g *Gate) tenant(op api.Op) api.Reply {
	l, e := plan.Tenant(g.store.State(), op.Tenant, op.Text)
	return g.change(l, e, func() int { return l[1].Num })
}

func (g *Gate) rotate(op api.Op) api.Reply {
	l, e := plan.Rotate(g.store.State(), op.Tenant, op.Text)
	return g.change(l, e, func() int { return l[1].Num })
}

func (g *Gate) retire(op api.Op) api.Reply {
	l, e := plan.Retire(g.store.State(), op.Tenant, op.Num)
	return g.change(l, e, func() int { return 0 })
}

func (g *Gate) revoke(op api.Op) api.Reply {
	l, e := plan.Revoke(g.store.State(), op.Tenant)
	return g.change(l, e, func() int { return l[0].Epoch })
}

func (g *Gate) mint(op api.Op) api.Reply {
	if len(op.Words) > api.MaxLinks {
		return api.Reply{Code: api.ErrLimit}
	}
	for _, text := range op.Words {
		if _, ok := caveat.Parse(text); !ok {
			return api.Reply{Code: api.ErrCaveat}
		}
	}
	state := g.store.State()
	l, e := plan.Mint(state, op.Tenant)
	if e := g.commit(l, e); e != api.OK {
		return api.Reply{Code: e}
	}
	serial := l[0].Num
	return api.Reply{Num: serial, Token: issued(state, op, serial)}
}

// issued returns the token of a serial for a tenant that has a key.
func issued(s api.State, op api.Op, serial int) api.Token {
	key, _ := ring.Newest(s, op.Tenant)
	epoch := s.Tenants[ring.Find(s, op.Tenant)].Epoch
	id, _ := rootid.Put(api.Root{Tenant: op.Tenant, Key: key.Num, Epoch: epoch, Serial: serial})
	t := api.Token{ID: id}
	for _, text := range op.Words {
		t.Links = append(t.Links, api.Link{Text: text})
	}
	t.Tag = chain.Last(key.Text, t)
	return t
}
