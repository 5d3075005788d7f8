package broker_test

import (
	"math/rand/v2"
	"testing"

	"scrivener/api"
	"scrivener/broker"
	"scrivener/plan"
)

// stirred tells houses in which much was done.
func stirred(t *testing.T, d *rand.Rand, many int, does func(h *house)) {
	t.Helper()
	for range many {
		h := newHouse(t, d, events{})
		for range 20 {
			for range 40 {
				h.step()
			}
			does(h)
		}
	}
}

// anything is what calls may be handed.
type anything struct {
	now  uint64
	call api.Call
	says api.Says
	resp api.Resp
}

// drawAnything draws what a broker might be handed, of which some is as nobody would.
func drawAnything(h *house) anything {
	d := h.d
	x := anything{now: h.now, call: h.calls[9+d.IntN(7)], says: api.Says{From: 1, Kind: 1 + d.IntN(3), Ballot: h.p.m.proposer.Ballot}, resp: hello(at(one(d, h.p.m.crew.Bookies...), 1), 0)}
	x.call.N++
	x.says.Value, _ = plan.Encode(h.p.m.newest)
	x.says.Accepted = api.Ballot{Round: 1, Node: 5, Inc: 1}
	if len(h.said) > 0 && d.IntN(2) == 0 {
		x.says = one(d, h.said...)
	}
	if len(h.resps) > 0 {
		x.resp = one(d, h.resps...)
	} else if len(h.reqs) > 0 {
		x.resp = resp(one(d, h.reqs...), d.IntN(5))
	}
	for range one(d, 0, 1, 2, 5, 20) {
		switch d.IntN(5) {
		case 0:
			x.now = one(d, edges()...)
		case 1:
			x.call = altered(d, x.call)
		case 2:
			x.resp = altered(d, x.resp)
		default:
			x.says = altered(d, x.says)
		}
	}
	return x
}

// handed has a broker be handed all of it, and tells all that it answers.
func (x anything) handed(b *broker.Broker) []any {
	l := []any{b.Tick(x.now), b.Take(x.now, x.resp), b.Call(x.now, x.call), b.Says(x.now, x.says)}
	x.says.Kind = api.SaysAccepted
	l = append(l, b.Says(x.now, x.says), b.Call(x.now, publish(9, 99, 99)), b.Tick(x.now), b.Says(x.now, api.Says{}))
	return append(l, b.Tell(), b.Plan())
}

// R1, R5: no arguments have a call panic, or not end; what it answers hangs on nothing but what was done to the broker, and what is done to a copy does not show.
func TestAnyArguments(t *testing.T) {
	t.Parallel()
	stirred(t, rand.New(rand.NewPCG(22, 3)), 24, func(h *house) {
		for range 4 {
			a, b := h.p.b.Copy(), h.p.b.Copy()
			for range 3 {
				x := drawAnything(h)
				in := anything{x.now, x.call, roomy(x.says, 2), roomy(x.resp, 2)}
				was := wholes(in.call, in.says, in.resp)
				first, second := in.handed(a), x.handed(b)
				if !alike(first, second) {
					t.Fatalf("%+v: %+v, then %+v", x, first, second)
				}
				if !alike(was, wholes(in.call, in.says, in.resp)) {
					t.Fatalf("%+v was changed", x)
				}
			}
			h.p.tells("done to a copy")
		}
	})
}

// R1: crews of any numbers: there is no broker, or one that takes what it is handed.
func TestAnyCrew(t *testing.T) {
	d := rand.New(rand.NewPCG(22, 4))
	made := 0
	for range 20000 {
		c := drawCrew(d)
		for range d.IntN(4) {
			c = altered(d, c)
		}
		now := one(d, edges()...)
		b, e := broker.New(c, now)
		if (e == api.OK) != mayCrew(c) || (b == nil) == mayCrew(c) {
			t.Fatalf("%+v: %d", c, e)
		}
		if b != nil {
			made++
			b.Call(now, publish(9, 1, 1))
			b.Tick(now)
		}
	}
	if made < 5000 {
		t.Errorf("%d", made)
	}
}

// R1: many bookies, and calls and answers of many bytes.
func TestMany(t *testing.T) {
	c := crew(1)
	c.Bookies = make([]int, 1<<22)
	for i := range c.Bookies {
		c.Bookies[i] = i + 2
	}
	if b, e := broker.New(c, 5); b != nil || e != api.ErrArg {
		t.Errorf("%d", e)
	}
	s := serving(t, 1)
	long := make([]byte, 1<<26)
	for channel := range 3 {
		x := s.b.Call(5, api.Call{Client: 9, Inc: 1, N: 9, Kind: api.CallPublish, Channel: channel, Seq: 1, Body: long})
		is(t, x, api.Sends{Replies: []api.Reply{{Client: 9, Inc: 1, N: 9, Result: api.TooLarge}}})
	}
	is(t, s.b.Take(5, api.Resp{From: at(2, 1), Kind: api.ReqGet, Epoch: 1 << 60, Body: long}), api.Sends{})
	is(t, s.b.Take(5, api.Resp{From: at(2, 1), Kind: api.ReqHello, Body: long}), api.Sends{})
	x := s.b.Tick(5)
	s.b.Says(5, api.Says{From: 1, Kind: api.SaysPromise, Ballot: x.Asks[0].Ballot, Accepted: api.Ballot{Round: 1, Node: 2, Inc: 1}, Value: long})
	if x := s.b.Tell(); x.Asked != 1 || x.Version != 2 {
		t.Errorf("%+v", x)
	}
}
