package whole

import (
	"fmt"
	"math"
	"math/rand"
	"reflect"
	"testing"

	"porter/api"
	"porter/auto"
	"porter/blocks"
	"porter/bound"
	"porter/box"
	"porter/bucket"
	"porter/bundle"
	"porter/caveat"
	"porter/chain"
	"porter/charset"
	"porter/dfa"
	"porter/disk"
	"porter/entry"
	"porter/field"
	"porter/frame"
	"porter/gate"
	"porter/hmac"
	"porter/holder"
	"porter/labels"
	"porter/lang"
	"porter/least"
	"porter/match"
	"porter/matcher"
	"porter/name"
	"porter/notary"
	"porter/octet"
	"porter/opcode"
	"porter/plan"
	"porter/play"
	"porter/policy"
	"porter/prod"
	"porter/quote"
	"porter/rate"
	"porter/record"
	"porter/regex"
	"porter/regtext"
	"porter/reply"
	"porter/request"
	"porter/rewrite"
	"porter/ring"
	"porter/rootid"
	"porter/sat"
	"porter/scope"
	"porter/selector"
	"porter/sha"
	"porter/spots"
	"porter/store"
	"porter/stream"
	"porter/token"
	"porter/varint"
	"porter/verify"
)

// functions are the functions that the chapters list; methods come with what they are called on.
func functions() []any {
	return []any{
		sat.Add, sat.Sub, sat.Mul, sat.Div, sat.Clamp, octet.Compare, octet.Equal, octet.Xor, octet.Common, octet.Hex, octet.Unhex, octet.Pad, octet.Cut,
		sha.Pad, sha.Step, sha.Tell, sha.Sum, (*sha.Hash).Add, (*sha.Hash).Sum, hmac.Sum, hmac.Split, hmac.Same, stream.Take, stream.Mix, stream.Block, box.Seal, box.Open, box.Nonce,
		varint.Put, varint.Take, varint.Size, field.Num, field.Text, (*field.Reader).Byte, (*field.Reader).Num, (*field.Reader).Text, (*field.Reader).Left, (*field.Reader).Fail, (*field.Reader).End,
		name.Label, name.Word, name.Cut, name.Words, name.Join, quote.Text, quote.Read, quote.Unit, labels.Right, labels.Get, labels.Of, labels.Text, labels.Parse, labels.Take,
		charset.Of, charset.Texts, charset.Has, charset.Less, charset.Count, charset.First, charset.Text, regex.Right, regex.Same, regex.Size, regex.Parse, regtext.Text, regtext.Byte, regtext.Set, match.Match, match.Ends,
		spots.Count, spots.Of, spots.Match, spots.Right, blocks.Of, blocks.Right, blocks.Count, blocks.First, blocks.Meet, dfa.Right, dfa.State, dfa.Run, dfa.Of, dfa.Word, least.Of, least.Same, least.Reached,
		prod.And, prod.Or, prod.Less, prod.Unlike, prod.Not, prod.Pairs, lang.First, lang.Only, lang.Finite, lang.Inside, lang.Alike, lang.Many, matcher.Right, matcher.Test, matcher.Holds, matcher.Compare, matcher.Text, matcher.Take,
		selector.Right, selector.Holds, selector.Order, selector.Names, selector.Of, selector.Text, selector.Take, selector.Parse, auto.Of, auto.All, scope.Right, scope.Of, scope.Has, scope.Empty, scope.Some, scope.And, scope.Alike, rewrite.Emit, rewrite.One,
		caveat.Right, caveat.Text, caveat.Parse, caveat.Allows, policy.Of, policy.Texts, (*policy.Policy).Allows, (*policy.Policy).Sel, (*policy.Policy).Window, (*policy.Policy).Some, rootid.Put, rootid.Get, token.Put, token.Get, token.Size, bundle.Put, bundle.Get, bundle.Size,
		request.Put, request.Get, reply.Put, reply.Get, reply.Line, reply.Word, chain.Root, chain.Next, chain.Bind, chain.Seal, chain.Tags, chain.Last, holder.Add, holder.Third, holder.Bind, notary.Ticket, notary.Read, verify.Verify, verify.Work, verify.Most,
		ring.Right, ring.Form, ring.Apply, ring.All, ring.Find, ring.Key, ring.Newest, record.Put, record.Get, record.Batch, record.Read, plan.Image, plan.Tenant, plan.Rotate, plan.Retire, plan.Revoke, plan.Mint,
		(*disk.Disk).Write, (*disk.Disk).Read, (*disk.Disk).Copy, frame.Put, frame.Get, frame.Tail, entry.Mark, entry.Blocks, entry.Write, entry.Read, store.Open, (*store.Store).Commit, (*store.Store).Compact, (*store.Store).State,
		bucket.Right, bucket.New, bucket.At, bucket.Take, rate.Check, rate.New, (*rate.Rates).Take, (*rate.Rates).Left, (*rate.Rates).Begin, gate.Open, (*gate.Gate).Do, (*gate.Gate).Left, (*gate.Gate).State,
		bound.Tags, bound.Automata, bound.States, bound.Window, bound.Image, opcode.Line, opcode.Parse, opcode.Script, opcode.Read, play.Run, play.Lines, play.Notary, play.Count,
	}
}

// maker makes arguments at random, of which some are at the limits and some make sense.
type maker struct {
	*rand.Rand
}

func (m maker) number() int {
	l := []int{0, 0, 0, 1, 1, 2, 3, 4, 5, 7, 8, 9, 10, 16, 17, 31, 32, 33, 64, 65, 110, 128, 255, 256, 257, 1024, 4095, 4096, 4097, 1 << 40, 1<<40 + 1, math.MaxInt, math.MinInt, -1, -2}
	return l[m.Intn(len(l))]
}

func (m maker) text() string {
	l := []string{"", "a", "b", "acme", "\xff", "\x00", "é", "\"", "\\", "{}", "{a=\"1\"}", "query", "before 9", "{a=~\"x|y*\"}", "mint a \"x\"", "tick 3\n", "a|b*", "(a{2,3})*", "[^a-c]", "x00", "match {a=\"1\"}", "01234567890123456789012345678901", "0123456789abcdef"}
	if m.Intn(6) == 0 {
		b := make([]byte, m.Intn(300))
		m.Read(b)
		return string(b)
	}
	return l[m.Intn(len(l))] + l[m.Intn(len(l))*m.Intn(2)]
}

func (m maker) automaton() api.Dfa {
	states, classes := 1+m.Intn(5), 1+m.Intn(3)
	d := api.Dfa{Start: m.Intn(states), Block: make([]int, 256)}
	for i := range classes - 1 {
		d.Block['a'+i] = i + 1
	}
	for range states {
		row := make([]int, classes)
		for class := range row {
			row[class] = m.Intn(states)
		}
		d.Next, d.Final = append(d.Next, row), append(d.Final, m.Intn(2) == 0)
	}
	return d
}

// object makes what methods are called on; now and then nil, or what no constructor made.
func (m maker) object(t reflect.Type) reflect.Value {
	d, _ := disk.New(1+m.Intn(20), api.Crash{At: m.Intn(20), Keep: m.number()})
	s, _ := store.Open(d)
	r, _ := rate.New([]api.Class{{Name: "a", Cap: 3, Fill: 1}}, m.Intn(9))
	g, _ := gate.Open(api.Config{Classes: []api.Class{{Name: "a", Cap: 3, Fill: 1}}}, d)
	p, _ := policy.Texts([]string{"before 9", "endpoint a"})
	for _, o := range []any{d, s, r, g, p, sha.New(), field.New(m.text())} {
		if v := reflect.ValueOf(o); v.Type() == t && m.Intn(5) > 0 {
			return v
		}
	}
	if m.Intn(2) == 0 {
		return reflect.New(t.Elem())
	}
	return reflect.Zero(t)
}

func (m maker) value(t reflect.Type, depth int) reflect.Value {
	v := reflect.New(t).Elem()
	switch t.Kind() {
	case reflect.Int:
		v.SetInt(int64(m.number()))
	case reflect.Uint8, reflect.Uint32, reflect.Uint64:
		v.SetUint(m.Uint64() >> m.Intn(64) & (1<<t.Bits() - 1))
	case reflect.Bool:
		v.SetBool(m.Intn(2) == 0)
	case reflect.String:
		v.SetString(m.text())
	case reflect.Pointer:
		return m.object(t)
	case reflect.Slice:
		n := m.Intn(4) * (1 + m.Intn(20)/19*20)
		for range max(n-20*depth, min(n, 6-depth)) {
			v = reflect.Append(v, m.value(t.Elem(), depth+1))
		}
	case reflect.Array:
		for i := range t.Len() {
			v.Index(i).Set(m.value(t.Elem(), depth+1))
		}
	case reflect.Struct:
		if t == reflect.TypeOf(api.Dfa{}) && m.Intn(4) > 0 {
			return reflect.ValueOf(m.automaton())
		}
		for i := range t.NumField() {
			v.Field(i).Set(m.value(t.Field(i).Type, depth+1))
		}
	}
	return v
}

// TestNothingPanics: every function ends without a panic, and leaves its arguments alone, unless they are objects.
func TestNothingPanics(t *testing.T) { // P9
	m := maker{rand.New(rand.NewSource(9))}
	for i, f := range functions() {
		v := reflect.ValueOf(f)
		for range 300 {
			var in []reflect.Value
			objects := false
			for k := range v.Type().NumIn() {
				a := v.Type().In(k)
				objects = objects || a.Kind() == reflect.Pointer
				in = append(in, m.value(a, 0))
			}
			before := ""
			if !objects {
				before = fmt.Sprintf("%q", in)
			}
			call(t, i, v, in)
			if !objects && before != fmt.Sprintf("%q", in) {
				t.Fatalf("function %d, %s, changes its arguments %s", i, v.Type(), before)
			}
		}
	}
}

func call(t *testing.T, i int, f reflect.Value, in []reflect.Value) {
	t.Helper()
	defer func() {
		if p := recover(); p != nil {
			t.Fatalf("function %d, %s, of %.2000q: %v", i, f.Type(), in, p)
		}
	}()
	if f.Type().IsVariadic() {
		f.CallSlice(in)
		return
	}
	f.Call(in)
}
