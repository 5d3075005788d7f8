package broker_test

import (
	"testing"

	"scrivener/api"
	"scrivener/ops"
	"scrivener/plan"
)

// lost has the meta know of a plan in which another broker has closed ledgers of so many entries, on the nodes 2 and 3.
func (s *scene) lost(entries ...uint64) {
	p := s.meta.plan()
	if len(p.Channels) == 0 {
		p, _ = plan.Start(s.m.crew.Channels)
	}
	row := []api.Frag{{First: 1, Bookies: []api.Place{at(2, 1), at(3, 1)}}}
	n := uint64(0)
	does := func(o api.Op) {
		n++
		o.Who, o.Inc, o.N, o.Channel = 6, p.Version+1, n, 1
		p, _ = ops.Apply(p, o)
	}
	does(api.Op{Kind: api.OpGrab, Now: p.Channels[0].Renewed + 12})
	epoch := p.Channels[0].Epoch
	for _, last := range entries {
		does(api.Op{Kind: api.OpLedger, Epoch: epoch, W: 2, A: 2, Frags: row})
		does(api.Op{Kind: api.OpClose, Epoch: epoch, Ledger: p.Next - 1, At: last, Frags: row})
	}
	s.meta.decides(p)
}

// copies tells a broker that copies what node 2 had of the ledger 1 of so many entries, and what it sent as it began; node 3 has them, too.
func copies(t *testing.T, last uint64) (*scene, api.Sends) {
	t.Helper()
	c := crew(1)
	c.Bookies = []int{2, 3, 5}
	s := &scene{pair: newPair(t, c, 5), meta: rule{node: 1}, now: 5}
	s.lost(last)
	s.ticks(0) // it looks at the plan
	s.greeted(at(2, 2), at(3, 1), at(5, 1))
	x := s.ticks(1)
	if s.b.Tell().Copies == 0 {
		t.Fatalf("%+v, %+v", x, s.b.Tell())
	}
	return s, x
}

// copied has a copier come to its end, by as many entries.
func (s *scene) copied(x api.Sends, entries int) {
	s.t.Helper()
	for range 2 * entries {
		for _, q := range x.Reqs {
			r := resp(q, api.RespOk)
			if q.Kind == api.ReqGet {
				r.Body = []byte("x")
			}
			if q.Kind == api.ReqGet || q.Kind == api.ReqAdd {
				x = s.take(s.now, r)
			}
		}
	}
	if got := s.b.Tell().Copies; got != 3 {
		s.t.Fatalf("%d", got)
	}
}

// replaced tells whether the plan has another place in the place of the one that node 2 lost, in a ledger.
func (s *scene) replaced(ledger uint64) bool {
	l, _ := plan.Find(s.meta.plan(), ledger)
	return len(l.Frags) == 1 && alike(l.Frags[0].Bookies, []api.Place{at(2, 2), at(3, 1)})
}

// P22.5: what a lost disk had is copied; then the plan is asked to name the new place, once; then there is no copier.
func TestCopies(t *testing.T) {
	s, x := copies(t, 3)
	s.copied(x, 3)
	if tells := s.b.Tell(); tells.N != 1 || tells.Asked != 0 || s.replaced(1) {
		t.Fatalf("%+v", tells)
	}
	x = s.tick(s.now)
	if tells := s.b.Tell(); len(x.Asks) != 1 || len(x.Reqs) != 0 || tells.N != 2 || tells.Asked != 1 || tells.Copies != 3 {
		t.Fatalf("%+v, %+v", x, tells)
	}
	for range 2 { // once
		is(t, s.tick(s.now), api.Sends{})
	}
	is(t, s.settle(x), api.Sends{})
	if tells := s.b.Tell(); tells.N != 2 || tells.Asked != 0 || tells.Copies != 0 || !s.replaced(1) {
		t.Fatalf("%+v", tells)
	}
	past := s.meta.plan().Past
	if past[0] != (api.Past{Who: 4, Inc: 1, N: 2}) {
		t.Errorf("%+v", past)
	}
	s.ticks(1)
	if s.b.Tell().Copies != 0 {
		t.Errorf("%+v", s.b.Tell())
	}
}

// P22.5: a copier that has nothing to copy is at its end at once: its Tick is the next one.
func TestCopiesNothing(t *testing.T) {
	s, x := copies(t, 0)
	if tells := s.b.Tell(); tells.Copies != 3 || tells.Asked != 0 || tells.N != 1 || len(kind(x.Reqs, api.ReqGet)) > 0 {
		t.Fatalf("%+v, %+v", x, tells)
	}
	s.ticks(0)
	if s.b.Tell().Copies != 0 || !s.replaced(1) {
		t.Errorf("%+v", s.b.Tell())
	}
}

// P22.3: whatever comes of the copier's operation, there is none any more; here the ledger is no more.
func TestCopiesRefused(t *testing.T) {
	s, _ := copies(t, 0)
	p := s.meta.plan()
	for i, o := range []api.Op{{Kind: api.OpGrab, Now: 50}, {Kind: api.OpForget, Epoch: 2}} {
		o.Who, o.Inc, o.N, o.Channel = 7, 1, uint64(i+1), 1
		p, _ = ops.Apply(p, o)
	}
	s.meta.decides(p)
	s.ticks(0)
	if x := s.b.Tell(); x.Copies != 0 || len(s.b.Plan().Ledgers) > 0 || s.b.Plan().Past[0].Outcome.Code != api.ErrState {
		t.Errorf("%+v, %+v", x, s.b.Plan())
	}
}

// P22.3: what else is decided leaves the copier, and its being asked for.
func TestCopiesBesideOthers(t *testing.T) {
	s, x := copies(t, 1)
	s.settle(s.calls(ack(9, 1, 0)))
	if s.b.Tell().Copies != 1 || s.b.Tell().Asked != 0 {
		t.Fatalf("%+v", s.b.Tell())
	}
	s.copied(x, 1)
	s.now = 30
	s.calls(ack(9, 2, 0))
	s.tick(s.now) // behind the call's operation
	if x := s.b.Tell(); x.Asked != 2 || x.Copies != 3 {
		t.Fatalf("%+v", x)
	}
	x = s.tick(s.now + 9)
	for was := s.b.Tell().Version; s.b.Tell().Version == was; {
		x = s.says(s.now+9, s.meta.asked(x.Asks[0]))
	}
	if tells := s.b.Tell(); tells.Copies != 3 || s.replaced(1) {
		t.Fatalf("%+v", tells)
	}
	s.settle(x)
	if tells := s.b.Tell(); tells.Copies != 0 || tells.Asked != 0 || !s.replaced(1) {
		t.Fatalf("%+v", tells)
	}
}

// P22.5: a copier that is given up is none at its Tick; the next one is looked for at the Tick behind that.
func TestCopiesGivenUp(t *testing.T) {
	s, x := copies(t, 2)
	gets := kind(x.Reqs, api.ReqGet)
	x = s.take(s.now, has(gets[0], []byte("x")))
	s.take(s.now, resp(x.Reqs[0], api.RespFull))
	if s.b.Tell().Copies != 4 {
		t.Fatalf("%+v", s.b.Tell())
	}
	is(t, s.tick(s.now), api.Sends{})
	if s.b.Tell().Copies != 0 {
		t.Fatalf("%+v", s.b.Tell())
	}
	is(t, s.tick(s.now), api.Sends{Reqs: gets})
	if s.b.Tell().Copies != 1 {
		t.Fatalf("%+v", s.b.Tell())
	}
	// By its own Tick, too: it is three ticks till it asks again, and nine till it is given up.
	for by, want := range []int{1, 1, 1, 1, 1, 1, 1, 1, 1, 0} {
		c := s.b.Copy()
		x := c.Tick(s.now + uint64(by))
		if c.Tell().Copies != want || (len(kind(x.Reqs, api.ReqGet)) == 1) != (by >= 3 && by < 9) {
			t.Errorf("%d: %+v, %+v", by, x, c.Tell())
		}
	}
	s.ticks(9)
	s.told(at(2, 2), at(3, 1), at(5, 1))
	s.ticks(0) // nothing is known to be written by now
	if s.b.Tell().Copies != 0 {
		t.Errorf("%+v", s.b.Tell())
	}
}

// P22.5: what is copied is what is lost by the newest plan, and the places known to be written.
func TestCopiesFinds(t *testing.T) {
	for name, c := range map[string]struct {
		does  func(s *scene)
		begun int
	}{
		"nothing is lost": {func(s *scene) { s.greeted(at(2, 1), at(3, 1), at(5, 1)) }, 0},
		"it is":           {func(s *scene) { s.greeted(at(2, 2), at(3, 1)) }, 1},
		"the new disk is full": {func(s *scene) {
			s.greeted(at(3, 1), at(5, 1))
			s.take(s.now, hello(at(2, 2), api.RespFull))
		}, 0},
		"it was heard long ago": {func(s *scene) {
			s.greeted(at(2, 2))
			s.now += 9
			s.greeted(at(3, 1))
		}, 0},
		"just not so long ago": {func(s *scene) {
			s.greeted(at(2, 2))
			s.now += 8
			s.greeted(at(3, 1))
		}, 1},
		"nothing is known": {func(s *scene) {}, 0},
	} {
		s := newScene(t, 1)
		s.lost(1)
		s.ticks(0)
		c.does(s)
		s.ticks(0)
		if got := s.b.Tell().Copies; got != c.begun {
			t.Errorf("%s: %d", name, got)
		}
	}
	// A plan that is not known as yet tells nothing.
	s := newScene(t, 1)
	s.lost(1)
	s.greeted(at(2, 2), at(3, 1))
	if s.tick(s.now); s.b.Tell().Copies != 0 {
		t.Errorf("%+v", s.b.Tell())
	}
}

// P22.5: ledger by ledger all is copied.
func TestCopiesAll(t *testing.T) {
	s := newScene(t, 1)
	s.lost(2, 0, 3)
	s.ticks(0)
	s.greeted(at(2, 2), at(3, 1))
	for _, entries := range []int{2, 0, 3} {
		s.copied(s.ticks(0), entries)
		s.ticks(0)
	}
	for id := range uint64(3) {
		if !s.replaced(id + 1) {
			t.Errorf("%+v", s.meta.plan())
		}
	}
	if x := s.b.Tell(); x.Copies != 0 || x.N != 4 {
		t.Errorf("%+v", x)
	}
}
