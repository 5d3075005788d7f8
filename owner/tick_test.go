package owner_test

import (
	"math"
	"testing"

	"scrivener/api"
	"scrivener/owner"
	"scrivener/plan"
)

// P21.5: the recovery asks anew, and has known places.
func TestTickRecovers(t *testing.T) {
	s := begun(t, false, 0)
	x := s.grabs()
	is(t, s.tick(52), api.Out{})
	is(t, s.tick(53), api.Out{Reqs: x.Reqs})
	is(t, s.tick(55), api.Out{})
}

// P21.5: the writer sends anew, and each fetch goes on, in the calls' order; the writer's come first.
func TestTickServes(t *testing.T) {
	s := writing(t, 2)
	confirm := s.calls(read(3, 1, 1)).Ops[0]
	s.calls(read(4, 1, 0))
	s.decide(confirm)
	gets := s.decide(confirm).Reqs
	sent := s.calls(publish(8, 1, 1)).Reqs
	is(t, s.tick(7, firsts(7, 8, 9)...), api.Out{})
	gets[0].To = at(8, 1)
	get := api.Req{To: at(9, 1), Kind: api.ReqGet, Ledger: 1, N: 2, Epoch: 1 << 60}
	is(t, s.tick(8, firsts(7, 8, 9)...), api.Out{Reqs: []api.Req{sent[0], sent[1], get, gets[0]}})
}

// P21.5: an entry that waits three times Patience has the channel be lost.
func TestTickTooLong(t *testing.T) {
	for _, c := range []struct {
		now  uint64
		lost bool
	}{{5, false}, {31, false}, {32, true}, {33, true}, {0, false}, {math.MaxUint64, true}} {
		s := writing(t, 1)
		s.calls(read(6, 1, 0))
		s.decide(own(api.OpConfirm, api.Op{Epoch: 1}))
		s.calls(publish(8, 1, 1))
		s.calls(publish(7, 1, 1))
		x := s.tick(c.now)
		if c.lost {
			if !alike(x.Replies, []api.Reply{{Client: 6, Inc: 1, N: 1, Result: api.NotOwner}, {Client: 8, Inc: 1, N: 1, Result: api.Fenced}, {Client: 7, Inc: 1, N: 1, Result: api.Fenced}}) || len(x.Ops) > 0 {
				t.Errorf("%d: %+v", c.now, x)
			}
			s.phase(api.OwnIdle)
		} else if len(x.Replies) > 0 {
			t.Errorf("%d: %+v", c.now, x)
		}
	}
}

// P21.5: that counts from when the entry was sent first, or what was asked to be changed was, of the first one that waits.
func TestTickBehindChange(t *testing.T) {
	s := writing(t, 0)
	x := s.calls(publish(8, 1, 1))
	y := s.take(5, resp(x.Reqs[0], api.RespFull))
	s.now = 20
	s.decide(y.Ops[0])
	for _, now := range []uint64{32, 46} {
		s.tick(now, firsts(7, 8, 9)...)
		s.phase(api.OwnServes)
	}
	s.tick(47, firsts(7, 8, 9)...)
	s.phase(api.OwnIdle)

	s = writing(t, 0)
	x = s.calls(publish(8, 1, 1))
	s.now = 20
	y = s.calls(publish(7, 1, 1))
	s.oks(x.Reqs)
	for _, now := range []uint64{32, 46} {
		s.tick(now)
		s.phase(api.OwnServes)
	}
	s.tick(47)
	s.phase(api.OwnIdle)
}

// P21.5: what is known is what was told last.
func TestTickKnown(t *testing.T) {
	s := serving(t, firsts(7, 8, 9)...)
	is(t, s.tick(5), api.Out{})
	is(t, s.calls(publish(8, 1, 1)), api.Out{})
	asked(t, s.tick(5, firsts(6, 7, 8, 9)...), own(api.OpLedger, api.Op{Epoch: 1, W: 2, A: 2, Frags: []api.Frag{frag(1, firsts(6, 7, 8)...)}}))
	// It stays known when the channel is lost.
	s = serving(t, firsts(7, 8, 9)...)
	s.calls(read(8, 1, 0))
	s.told(own(api.OpConfirm, api.Op{Epoch: 1}), api.Outcome{Code: api.ErrStale})
	x := s.calls(publish(8, 2, 1))
	s.n++
	x = s.decide(x.Ops[0])
	if len(x.Ops) != 1 || x.Ops[0].Kind != api.OpLedger {
		t.Errorf("%+v", x)
	}
}

// P21.6: what it tells, in each phase.
func TestTell(t *testing.T) {
	s := newScene(t)
	tells := func(want api.Owning) {
		t.Helper()
		want.Channel = 1
		if got := s.o.Tell(); got != want {
			t.Errorf("%+v, not %+v", got, want)
		}
	}
	tells(api.Owning{})
	s.calls(publish(8, 1, 1))
	tells(api.Owning{Phase: api.OwnGrabs, Calls: 1, Asked: api.OpGrab})
	s = begun(t, false, 0)
	s.grabs()
	tells(api.Owning{Phase: api.OwnRecovers, Epoch: 2, Calls: 1})
	s = begun(t, true, 5)
	s.grabs()
	s.calls(publish(8, 1, 1))
	tells(api.Owning{Phase: api.OwnReplays, Epoch: 2, Calls: 2})
	s = writing(t, 3)
	tells(api.Owning{Phase: api.OwnServes, Epoch: 1, Length: 3, Ledger: 1, Sure: 3})
	s.calls(publish(8, 1, 1))
	s.calls(publish(7, 1, 1))
	x := s.calls(api.Call{Client: 6, Kind: api.CallTrim, At: 2})
	s.decide(x.Ops[0])
	s.calls(read(6, 2, 2))
	tells(api.Owning{Phase: api.OwnServes, Epoch: 1, Length: 3, Trim: 2, Ledger: 1, Sure: 3, Unsure: 2, Calls: 3, Asked: api.OpConfirm})
	s = full(t)
	tells(api.Owning{Phase: api.OwnServes, Epoch: 1, Length: 8})
}

// P21.6: a copy is the same, and goes on by itself.
func TestCopy(t *testing.T) {
	for name, make := range map[string]func() *scene{
		"idle": func() *scene { return newScene(t) }, "recovers": func() *scene { s := begun(t, false, 0); s.grabs(); return s }, "replays": func() *scene { s := begun(t, true, 3); s.grabs(); return s },
		"writes": func() *scene {
			s := writing(t, 3)
			s.calls(publish(8, 1, 1))
			s.decide(s.calls(read(7, 1, 1)).Ops[0])
			s.calls(read(6, 1, 1))
			s.calls(publish(8, 2, 1))
			return s
		},
	} {
		s := make()
		c := s.o.Copy()
		if c == s.o || c.Tell() != s.o.Tell() || !alike(c.Plan(), s.o.Plan()) {
			t.Fatalf("%s: %+v", name, c.Tell())
		}
		// What is done to the one shows in the other one not at all: each is beside the model of its own.
		first, second := *s, *make()
		second.pair.o = c
		for i, x := range []*scene{&first, &second, &first, &second} {
			x.now = 70 + uint64(i)
			n := uint64(10 + i)
			x.tick(x.now, firsts(7, 8, 9)[:i%3]...)
			x.calls(publish(5, n, n))
			x.calls(publish(8, n, n))
			x.take(x.now, api.Resp{From: at(7, 1), Kind: api.ReqFence, Ledger: 1, Epoch: 2})
			x.take(x.now, api.Resp{From: at(8, 1), Kind: api.ReqFence, Ledger: 1, Epoch: 2})
			x.take(x.now, api.Resp{From: at(7, 1), Kind: api.ReqGet, Ledger: 1, N: 1, Epoch: 1 << 60, Body: stored(9, 1)})
			x.take(x.now, api.Resp{From: at(8, 1), Kind: api.ReqGet, Ledger: 1, N: 2, Epoch: 1 << 60, Body: stored(9, 2)})
			x.take(x.now, resp(add(at(7, 1), 4, 0, nil), api.RespOk))
			x.take(x.now, resp(add(at(8, 1), 4, 0, nil), api.RespOk))
			x.decide(own(api.OpConfirm, api.Op{Epoch: 1}))
		}
	}
}

// P21.7: of no owner, and of one that New did not make, nothing.
func TestNoOwner(t *testing.T) {
	made := writing(t, 2)
	copied := *made.o
	p, _ := plan.Start(1)
	p.Version = 7
	for name, o := range map[string]*owner.Owner{"nil": nil, "none": {}, "copied": &copied} {
		for _, x := range []api.Out{
			o.Call(5, publish(9, 70, 9)), o.Call(5, api.Call{}), o.Call(5, api.Call{Body: make([]byte, 99)}), o.Take(5, resp(add(at(7, 1), 3, 0, nil), api.RespFenced)), o.Take(5, api.Resp{}),
			o.Decided(5, api.Decided{Plan: p}), o.Decided(5, api.Decided{}), o.Tick(99, firsts(7, 8, 9)...), o.Tick(0),
		} {
			if !alike(x, api.Out{}) {
				t.Errorf("%s: %+v", name, x)
			}
		}
		if o.Tell() != (api.Owning{}) || !alike(o.Plan(), api.Plan{}) || o.Copy() != nil {
			t.Errorf("%s: %+v, %+v", name, o.Tell(), o.Plan())
		}
	}
	made.tells("beside a copy by value")
}

// P21.11: without a call an owner that has not the channel asks for nothing, and sends nothing, whatever it is told.
func TestQuiet(t *testing.T) {
	s, _ := asking(t, api.OpLedger)
	for _, s := range []*scene{newScene(t), s} {
		if s.o.Tell().Phase != api.OwnIdle {
			s.told(own(api.OpLedger, api.Op{Epoch: 1, W: 2, A: 2, Frags: []api.Frag{frag(1, firsts(7, 8, 9)...)}}), api.Outcome{Code: api.ErrStale})
		}
		for now := range uint64(60) {
			x := both(s.tick(now, firsts(7, 8, 9)...), s.take(now, resp(add(at(7, 1), now, 0, nil), int(now%5))))
			x = both(x, s.take(now, api.Resp{From: at(7, 1), Kind: int(now % 6), Ledger: 1, N: 1, Epoch: now, Body: stored(9, 1)}))
			s.now = now
			x = both(x, s.decide(api.Op{Who: 4, Inc: 1, N: 100 + now, Kind: api.OpGrab, Channel: 1, Now: now}))
			x = both(x, s.told(own(api.OpGrab, api.Op{Now: now}), api.Outcome{Epoch: 1, Owner: 5}))
			x = both(x, s.told(own(int(now%13), api.Op{Epoch: now % 3}), api.Outcome{Code: api.Errno(now % 10), Epoch: 1}))
			x = both(x, s.call(now, api.Call{Client: 3}))
			x.Replies = nil
			is(t, x, api.Out{})
			s.phase(api.OwnIdle)
		}
	}
}
