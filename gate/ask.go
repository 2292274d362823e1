package gate

import (
	"porter/api"
	"porter/policy"
	"porter/request"
	"porter/rewrite"
	"porter/ring"
	"porter/rootid"
	"porter/selector"
	"porter/verify"
)

func (g *Gate) ask(op api.Op) api.Reply {
	q, e := request.Get(op.Text)
	if e != api.OK {
		return api.Reply{Code: e}
	}
	p, e := g.granted(q)
	if e != api.OK {
		return api.Reply{Code: e}
	}
	sel, e := enforced(q, p)
	if e != api.OK {
		return api.Reply{Code: e}
	}
	// A unit is taken last: a request that is refused costs nothing.
	if e := g.rates.Take(q.Tenant, q.Class, g.now); e != api.OK {
		return api.Reply{Code: e}
	}
	return api.Reply{Sel: sel}
}

// granted returns the policy of a request's token, if the token is right and allows the request.
func (g *Gate) granted(q api.Request) (*policy.Policy, api.Errno) {
	root, e := rootid.Get(q.Bundle.Token.ID)
	if e != api.OK {
		return nil, api.ErrForm
	}
	state := g.store.State()
	key, ok := ring.Key(state, root.Tenant, root.Key)
	if !ok {
		return nil, api.ErrKey
	}
	texts, e := verify.Verify(key, q.Bundle)
	if e != api.OK {
		return nil, e
	}
	if root.Epoch < state.Tenants[ring.Find(state, root.Tenant)].Epoch {
		return nil, api.ErrEpoch
	}
	p, ok := policy.Texts(texts)
	if !ok {
		return nil, api.ErrCaveat
	}
	facts := api.Facts{Tenant: q.Tenant, Endpoint: q.Endpoint, Class: q.Class, Do: q.Do, Now: g.now}
	if q.Tenant != root.Tenant || !p.Allows(facts) {
		return nil, api.ErrDenied
	}
	return p, api.OK
}

// enforced returns the enforced selector of a query; a series that is written must satisfy the policy.
func enforced(q api.Request, p *policy.Policy) ([]api.Matcher, api.Errno) {
	if q.Do == api.Query {
		return rewrite.Emit(q.Sel, p.Sel())
	}
	if !selector.Holds(p.Sel(), q.Series) {
		return nil, api.ErrSeries
	}
	return nil, api.OK
}
