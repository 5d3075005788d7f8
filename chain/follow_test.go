package chain_test

import (
	"math/rand/v2"
	"slices"
	"testing"

	"scrivener/api"
	"scrivener/chain"
	"scrivener/ops"
	"scrivener/plan"
)

// P20.6: each spot's offset is found at it, and is its Offset; there are just Length less First of them, one behind the other.
func TestThereAndBack(t *testing.T) {
	d := rand.New(rand.NewPCG(20, 2))
	seen := 0
	for range 2000 {
		p := drawPlan(d)
		for i, c := range p.Channels {
			sure := drawSure(d)
			l := chain.All(p, i+1, sure)
			if uint64(len(l)) != chain.Length(p, i+1, sure)-c.First {
				t.Fatalf("%+v: %d spots, and the length is %d", p, len(l), chain.Length(p, i+1, sure))
			}
			for k, s := range l {
				seen++
				found, e := chain.Find(p, i+1, sure, s.Offset)
				at, code := chain.Offset(p, i+1, sure, s.Ledger, s.N)
				if found != s || e != api.OK || at != s.Offset || code != api.OK || at != c.First+uint64(k) {
					t.Fatalf("%+v: %v: %v, %d; %d, %d", p, s, found, e, at, code)
				}
			}
		}
	}
	if seen < 20000 {
		t.Error(seen)
	}
}

// game is a plan that operations are done on, and how many entries are sure of each ledger.
type game struct {
	plan api.Plan
	sure map[uint64]uint64
	n    uint64
	came map[int]int // how many operations of each kind came to OK
}

// does has an operation of the channel's owner done.
func (g *game) does(o api.Op) api.Outcome {
	g.n++
	o.Who, o.Inc, o.N = 4, 1, g.n
	if o.Kind == api.OpGrab {
		o.Who = 4 + int(g.n%3)
	} else if o.Channel > 0 {
		o.Epoch = g.plan.Channels[o.Channel-1].Epoch
	}
	var came api.Outcome
	if g.plan, came = ops.Apply(g.plan, o); came.Code == api.OK {
		g.came[o.Kind]++
	}
	return came
}

// sureOf tells how many entries are sure of a channel's open ledger.
func (g *game) sureOf(channel int) uint64 {
	l, _ := plan.Open(g.plan, channel)
	return g.sure[l.Id]
}

// place tells one of few places.
func place(d *rand.Rand) api.Place { return api.Place{Node: 7 + d.IntN(3), Serial: 1 + d.Uint64N(3)} }

// closes tells an operation that closes the channel's open ledger with all that is sure, and maybe more; or, where none is open, begins one.
func (g *game) closes(d *rand.Rand, channel int) api.Op {
	frags := []api.Frag{{First: 1, Bookies: []api.Place{place(d)}}}
	l, ok := plan.Open(g.plan, channel)
	if !ok {
		return api.Op{Kind: api.OpLedger, Channel: channel, W: 1, A: 1, Frags: frags}
	}
	least := g.sure[l.Id]
	return api.Op{Kind: api.OpClose, Channel: channel, Ledger: l.Id, At: least + d.Uint64N(9-least), Frags: frags}
}

// forgets tells an operation by which what may go is no more.
func (g *game) forgets(channel int) api.Op {
	_, next, _ := chain.Gone(g.plan, channel)
	return api.Op{Kind: api.OpForget, Channel: channel, Ledger: next}
}

// draws draws an operation, or has more be sure.
func (g *game) draws(d *rand.Rand) api.Op {
	channel := 1 + d.IntN(len(g.plan.Channels))
	c := g.plan.Channels[channel-1]
	now := g.n * 5
	switch d.IntN(9) {
	case 0:
		return api.Op{Kind: api.OpGrab, Channel: channel, Now: now}
	case 1:
		return api.Op{Kind: api.OpRenew, Channel: channel, Now: now}
	case 2:
		return g.forgets(channel)
	case 3:
		return api.Op{Kind: api.OpTrim, Channel: channel, At: c.Trim + d.Uint64N(6)}
	case 4:
		return api.Op{Kind: api.OpSeek, Channel: channel, Sub: 1 + d.IntN(3), At: d.Uint64N(40)}
	case 5:
		if len(g.plan.Ledgers) > 0 {
			l := one(d, g.plan.Ledgers...)
			return api.Op{Kind: api.OpReplace, Ledger: l.Id, From: l.Frags[0].Bookies[0], To: place(d)}
		}
		fallthrough
	case 6:
		if l, ok := plan.Open(g.plan, channel); ok {
			g.sure[l.Id] = min(8, g.sure[l.Id]+d.Uint64N(4))
			return api.Op{Kind: api.OpChange, Channel: channel, Ledger: l.Id, Frags: []api.Frag{{First: 1 + d.Uint64N(9), Bookies: []api.Place{place(d)}}}}
		}
		fallthrough
	default:
		return g.closes(d, channel)
	}
}

// newGame tells a game of so many channels.
func newGame(channels int) *game {
	p, _ := plan.Start(channels)
	return &game{plan: p, sure: map[uint64]uint64{}, came: map[int]int{}}
}

// P20.7: by operations an offset that was found, and is not below First then, is found at the same spot.
func TestItStays(t *testing.T) {
	d := rand.New(rand.NewPCG(20, 3))
	came, stayed, went := map[int]int{}, 0, 0
	for range 60 {
		g := newGame(1 + d.IntN(3))
		g.came = came
		was := make([][]api.Spot, 3)
		for range 150 {
			g.does(g.draws(d))
			for i, c := range g.plan.Channels {
				sure := g.sureOf(i + 1)
				for _, s := range was[i] {
					if s.Offset < c.First {
						went++
						continue
					}
					stayed++
					found, e := chain.Find(g.plan, i+1, sure, s.Offset)
					at, code := chain.Offset(g.plan, i+1, sure, s.Ledger, s.N)
					if found != s || e != api.OK || at != s.Offset || code != api.OK {
						t.Fatalf("%+v: %v is %v, %d; %d, %d", g.plan, s, found, e, at, code)
					}
				}
				was[i] = chain.All(g.plan, i+1, sure)
			}
		}
	}
	for _, kind := range []int{api.OpGrab, api.OpRenew, api.OpLedger, api.OpChange, api.OpClose, api.OpTrim, api.OpForget, api.OpSeek, api.OpReplace} {
		if came[kind] < 100 {
			t.Error(kind, came)
		}
	}
	if stayed < 50000 || went < 500 {
		t.Error(stayed, went)
	}
}

// P20.7: what was sure stays where the ledger is closed with it, whatever comes behind.
func TestItStaysClosed(t *testing.T) {
	for sure := range uint64(9) {
		for last := sure; last <= 8; last++ {
			g := newGame(1)
			g.does(api.Op{Kind: api.OpGrab, Channel: 1})
			d := rand.New(rand.NewPCG(20, 4))
			g.does(g.closes(d, 1))
			was := chain.All(g.plan, 1, sure)
			o := g.closes(d, 1)
			o.At = last
			g.does(o)
			for range 2 {
				if l := chain.All(g.plan, 1, 0); uint64(len(l)) != last || !slices.Equal(l[:sure], was) {
					t.Fatalf("%v, closed with %d: %v", was, last, l)
				}
				g.does(g.closes(d, 1))
			}
		}
	}
}

// P20.4, P20.7: what Gone tells is what the plan forgets: those ledgers, no others; its first offset is First then; and nothing may go any more.
func TestGoneIsForgotten(t *testing.T) {
	d := rand.New(rand.NewPCG(20, 5))
	went := map[int]int{}
	for range 6000 {
		p := drawPlan(d)
		channel := 1 + d.IntN(len(p.Channels))
		c := p.Channels[channel-1]
		ledgers, next, first := chain.Gone(p, channel)
		went[len(ledgers)]++
		for _, id := range append(chain.Keep(p), 0, p.Next) {
			q, came := ops.Apply(p, api.Op{Who: 4, Inc: 1, N: 1, Kind: api.OpForget, Channel: channel, Epoch: c.Epoch, Ledger: min(id, top)})
			if id != next {
				if came != (api.Outcome{Code: api.ErrState}) {
					t.Fatalf("%+v: forgotten up to %d, not %d: %v", p, id, next, came)
				}
				continue
			}
			rest := slices.DeleteFunc(chain.Keep(p), func(id uint64) bool { return slices.Contains(ledgers, id) })
			if came != (api.Outcome{At: first}) || q.Channels[channel-1].First != first || !slices.Equal(chain.Keep(q), rest) {
				t.Fatalf("%+v: forgotten up to %d: %v, and there are %d", p, id, came, chain.Keep(q))
			}
			if l, n, f := chain.Gone(q, channel); len(l) > 0 || n != next || f != first {
				t.Fatalf("%+v: %d, %d, %d", q, l, n, f)
			}
		}
	}
	for n := range 4 {
		if went[n] < 100 {
			t.Error(went)
		}
	}
}

// P20.8: who is sure of more has all the spots of who is sure of less, and others behind them.
func TestSureOfMore(t *testing.T) {
	d := rand.New(rand.NewPCG(20, 6))
	more, alike := 0, 0
	for range 1500 {
		p := drawPlan(d)
		for i := range p.Channels {
			less, greater := drawSure(d), drawSure(d)
			if less > greater {
				less, greater = greater, less
			}
			a, b := chain.All(p, i+1, less), chain.All(p, i+1, greater)
			if len(b) < len(a) || !slices.Equal(b[:len(a)], a) {
				t.Fatalf("%+v: sure of %d: %v; of %d: %v", p, less, a, greater, b)
			}
			want := 0
			if _, ok := plan.Open(p, i+1); ok {
				want = int(min(greater, 8) - min(less, 8))
			}
			if len(b)-len(a) != want || chain.Length(p, i+1, greater)-chain.Length(p, i+1, less) != uint64(want) {
				t.Fatalf("%+v: sure of %d: %v; of %d: %v", p, less, a, greater, b)
			}
			for _, s := range a {
				if found, e := chain.Find(p, i+1, greater, s.Offset); found != s || e != api.OK {
					t.Fatalf("%+v: %v is %v, %d", p, s, found, e)
				}
			}
			for _, s := range b[len(a):] {
				if found, e := chain.Find(p, i+1, less, s.Offset); found != (api.Spot{}) || e != api.ErrNone {
					t.Fatalf("%+v: %v is %v, %d", p, s, found, e)
				}
			}
			if more++; want == 0 {
				alike++
			}
		}
	}
	if alike < 300 || more-alike < 300 {
		t.Error(more, alike)
	}
}
