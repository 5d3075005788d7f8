package broker_test

import (
	"math"
	"testing"

	"scrivener/api"
	"scrivener/ops"
	"scrivener/plan"
)

// P22.5: the proposer tries again, as its Tick has it.
func TestTickProposer(t *testing.T) {
	s := newScene(t, 1)
	is(t, s.call(5, publish(9, 1, 1)), api.Sends{Asks: prepares(1)})
	for now, want := range map[uint64][]api.Ask{4: nil, 5: nil, 7: nil, 8: prepares(3), 900: prepares(3)} {
		got := s.b.Copy().Tick(now)
		if !alike(got.Asks, want) {
			t.Errorf("%d: %+v", now, got)
		}
	}
	x := s.tick(8)
	is(t, x, api.Sends{Asks: prepares(3), Reqs: hellos(at(2, 0), at(3, 0))})
}

// P22.5: owners know the places that could be written when they were heard last, less than nine ticks ago, in the order of the crew's bookies.
func TestKnown(t *testing.T) {
	for _, c := range []struct {
		second, now uint64
		known       []api.Place
	}{
		{5, 5, []api.Place{at(2, 1), at(3, 1)}}, {5, 13, []api.Place{at(2, 1), at(3, 1)}}, {5, 14, nil}, {5, math.MaxUint64, nil}, {9, 14, nil}, {9, 13, []api.Place{at(2, 1), at(3, 1)}},
		{5, 0, []api.Place{at(2, 1), at(3, 1)}}, {math.MaxUint64 - 3, 6, []api.Place{at(2, 1), at(3, 1)}}, {0, 5, []api.Place{at(2, 1), at(3, 1)}}, {0, 9, nil}, {0, 8, []api.Place{at(2, 1), at(3, 1)}},
	} {
		s := serving(t, 1)
		s.greeted(at(3, 1))
		s.take(c.second, hello(at(2, 1), api.RespOk))
		s.calls(publish(9, 2, 1))
		s.now = c.now
		s.ticks(0)
		l, _ := plan.Open(s.meta.plan(), 1)
		var got []api.Place
		if len(l.Frags) > 0 {
			got = l.Frags[0].Bookies
		}
		if !alike(got, c.known) {
			t.Errorf("%+v: %+v", c, got)
		}
		s.told(at(2, 1), at(3, 1))
	}
	// One that is full is not known to be written.
	s := serving(t, 1)
	s.greeted(at(2, 1), at(3, 1))
	s.take(5, hello(at(3, 1), api.RespFull))
	s.calls(publish(9, 2, 1))
	s.ticks(0)
	if _, ok := plan.Open(s.meta.plan(), 1); ok {
		t.Errorf("%+v", s.meta.plan())
	}
}

// renewed has the meta answer all that it is asked, and tells which channels were kept by that, in that order.
func (s *scene) renewed(x api.Sends) []int {
	s.t.Helper()
	var channels []int
	was := s.meta.plan()
	for len(x.Asks) > 0 {
		x = s.says(s.now, s.meta.asked(x.Asks[0]))
		p := s.meta.plan()
		for i, c := range p.Channels {
			if c.Renewed != was.Channels[i].Renewed {
				channels = append(channels, i+1)
			}
		}
		was = p
	}
	return channels
}

// P22.5: each owner is ticked, by its number: each asks to keep its channel, in their order.
func TestTickOwners(t *testing.T) {
	s := newScene(t, 3)
	for channel := 3; channel >= 1; channel-- {
		c := ack(9, uint64(channel), 0)
		c.Channel = channel
		s.settle(s.call(5, c))
	}
	if got := s.renewed(s.tick(9)); !alike(got, []int{1, 2, 3}) {
		t.Errorf("%v", got)
	}
}

// P22.5: hello is said at the first Tick, and three ticks or more behind the last time.
func TestHellos(t *testing.T) {
	s := newScene(t, 1)
	s.greeted(at(3, 4))
	want := hellos(at(2, 0), at(3, 4))
	for _, c := range []struct {
		now  uint64
		says bool
	}{{7, true}, {7, false}, {8, false}, {9, false}, {10, true}, {12, false}, {5, false}, {0, false}, {12, false}, {14, true}, {16, false}, {17, true}, {math.MaxUint64, true}, {math.MaxUint64, false}, {0, false}} {
		x := s.tick(c.now)
		if c.says && !alike(x.Reqs, want) || !c.says && len(x.Reqs) > 0 {
			t.Errorf("%d: %+v", c.now, x.Reqs)
		}
	}
	// At the first Tick, too, where the clock is at its beginning.
	s = newScene(t, 1)
	if x := s.tick(0); !alike(x.Reqs, hellos(at(2, 0), at(3, 0))) {
		t.Errorf("%+v", x)
	}
	if x := s.tick(2); len(x.Reqs) > 0 {
		t.Errorf("%+v", x)
	}
	if x := s.tick(3); len(x.Reqs) != 2 {
		t.Errorf("%+v", x)
	}
}

// P22.5: behind the hellos all places that were told of, whether they can be written or not, are told which ledgers may go, once a plan was decided.
func TestFree(t *testing.T) {
	c := crew(2)
	c.Bookies = []int{9, 2, 3}
	s := &scene{pair: newPair(t, c, 5), meta: rule{node: 1}, now: 5}
	s.greeted(at(3, 4))
	s.take(5, hello(at(9, 1), api.RespFull))
	want := hellos(at(9, 1), at(2, 0), at(3, 4))
	is(t, s.tick(5), api.Sends{Asks: prepares(1), Reqs: want}) // the first plan is not one that was decided
	is(t, s.settle(api.Sends{Asks: prepares(1)}), api.Sends{})
	frees := func(next uint64, keep ...uint64) []api.Req {
		return []api.Req{{To: at(9, 1), Kind: api.ReqFree, N: next, Keep: keep}, {To: at(3, 4), Kind: api.ReqFree, N: next, Keep: keep}}
	}
	is(t, s.tick(7), api.Sends{})
	is(t, s.tick(8), api.Sends{Reqs: append(hellos(at(9, 1), at(2, 0), at(3, 4)), frees(1)...)})
	p := s.meta.plan()
	row := []api.Frag{{First: 1, Bookies: []api.Place{at(9, 1)}}}
	for i, o := range []api.Op{
		{Kind: api.OpGrab, Channel: 2}, {Kind: api.OpLedger, Channel: 2, Epoch: 1, W: 1, A: 1, Frags: row}, {Kind: api.OpClose, Channel: 2, Epoch: 1, Ledger: 1, Frags: row},
		{Kind: api.OpGrab, Channel: 1}, {Kind: api.OpLedger, Channel: 1, Epoch: 1, W: 1, A: 1, Frags: row}, {Kind: api.OpForget, Channel: 2, Epoch: 1, Ledger: 0}, {Kind: api.OpLedger, Channel: 2, Epoch: 1, W: 1, A: 1, Frags: row},
	} {
		o.Who, o.Inc, o.N = 6, 1, uint64(i+1)
		p, _ = ops.Apply(p, o)
	}
	s.meta.decides(p)
	s.now = 17
	s.ticks(0)
	s.now = 20 // long behind when they were heard
	x := s.ticks(0)
	is(t, x, api.Sends{Reqs: append(hellos(at(9, 1), at(2, 0), at(3, 4)), frees(4, 2, 3)...)})
	if _, ok := plan.Find(s.b.Plan(), 3); !ok {
		t.Errorf("%+v", s.b.Plan())
	}
}

// P22.5: the plan is looked at, where nothing waits, at the first time, and twelve ticks or more behind the last time.
func TestLooks(t *testing.T) {
	s := newScene(t, 1)
	n := uint64(0)
	for _, c := range []struct {
		now   uint64
		looks bool
	}{{7, true}, {7, false}, {18, false}, {19, true}, {30, false}, {31, true}, {0, false}, {42, false}, {44, true}, {55, false}, {56, true}, {math.MaxUint64 - 2, true}, {math.MaxUint64, false}, {20, false}} {
		x := s.tick(c.now)
		if (len(x.Asks) == 1) != c.looks || c.looks && s.b.Tell().Asked != 1 {
			t.Errorf("%d: %+v", c.now, x)
		}
		s.now = c.now
		s.settle(x)
		if c.looks {
			n++
		}
		if tells := s.b.Tell(); tells.N != n || tells.Version != n || tells.Asked != 0 {
			t.Errorf("%d: %+v", c.now, tells)
		}
	}
	// It is OpConfirm of the channel 1, of no epoch, of the broker's own.
	p := s.meta.plan()
	if len(p.Past) != 1 || p.Past[0] != (api.Past{Who: 4, Inc: 1, N: n}) {
		t.Errorf("%+v", p)
	}
}

// P22.5: as long as something waits the plan is not looked at; once nothing does it is, as that is long ago.
func TestLooksBehindOthers(t *testing.T) {
	s := newScene(t, 1)
	s.call(5, ack(9, 1, 0))
	x := s.tick(5)
	is(t, x, api.Sends{Reqs: hellos(at(2, 0), at(3, 0))})
	is(t, s.settle(api.Sends{Asks: prepares(1)}), api.Sends{Replies: []api.Reply{{Client: 9, Inc: 1, N: 1}}})
	if x := s.b.Tell(); x.N != 1 || x.Version != 2 {
		t.Fatalf("%+v", x)
	}
	is(t, s.tick(6), api.Sends{Asks: prepares(3)})
	is(t, s.settle(api.Sends{Asks: prepares(3)}), api.Sends{})
	if x := s.b.Tell(); x.N != 2 || x.Version != 2 { // of another epoch: it tells the plan, and changes nothing
		t.Fatalf("%+v", x)
	}
	// What an owner wants by that Tick waits, so the plan is not looked at.
	s.now = 18
	s.ticks(0)
	if x := s.b.Tell(); x.N != 3 || x.Version != 3 || s.meta.plan().Channels[0].Renewed != 18 {
		t.Fatalf("%+v", x)
	}
	s.now = 21
	s.ticks(0)
	if x := s.b.Tell(); x.N != 4 || x.Version != 3 {
		t.Errorf("%+v", x)
	}
}

// P22.5, P22.7: all of a Tick is sent, in its order.
func TestTickOrder(t *testing.T) {
	s, x := copies(t, 3)
	s.oks(kind(x.Reqs, api.ReqGet))
	s.now += 3
	p := s.meta.plan()
	free := api.Req{Kind: api.ReqFree, N: p.Next, Keep: []uint64{1}}
	want := []api.Req{{To: at(2, 2), Kind: api.ReqAdd, Ledger: 1, N: 1, Sure: 3, Copy: 1}}
	want = append(want, hellos(at(2, 2), at(3, 1), at(5, 1))...)
	for _, p := range []api.Place{at(2, 2), at(3, 1), at(5, 1)} {
		free.To = p
		want = append(want, free)
	}
	is(t, api.Sends{Reqs: s.tick(s.now).Reqs}, api.Sends{Reqs: want})
}
