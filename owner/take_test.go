package owner_test

import (
	"testing"

	"scrivener/api"
	"scrivener/entry"
	"scrivener/ops"
	"scrivener/plan"
)

// begun tells a scene whose plan has a ledger 1 of W 2, A 2, on the nodes 7, 8 and 9, that the node 4 has made and, if that is asked for, closed with so many entries; node 4's lease is over.
func begun(t *testing.T, closed bool, last uint64) *scene {
	t.Helper()
	s := newScene(t)
	row := []api.Frag{frag(1, firsts(7, 8, 9)...)}
	l := []api.Op{{Kind: api.OpGrab}, {Kind: api.OpLedger, Epoch: 1, W: 2, A: 2, Frags: row}, {Kind: api.OpClose, Epoch: 1, Ledger: 1, At: last, Frags: row}}
	if !closed {
		l = l[:2]
	}
	for i, o := range l {
		o.Who, o.Inc, o.N, o.Channel = 4, 1, uint64(i+1), 1
		s.plan, _ = ops.Apply(s.plan, o)
	}
	s.now = 50
	return s
}

// grabs has the owner have the channel, as somebody reads there.
func (s *scene) grabs() api.Out {
	s.t.Helper()
	s.calls(read(15, 1, 0))
	x := s.decide(own(api.OpGrab, api.Op{Now: s.now}))
	if s.o.Tell().Epoch == 0 {
		s.t.Fatalf("%+v: it has not the channel", x)
	}
	return x
}

// P21.3: an answer to an add is the writer's.
func TestTakeAdd(t *testing.T) {
	s := writing(t, 1)
	x := s.calls(publish(8, 1, 1))
	is(t, s.take(5, resp(x.Reqs[0], api.RespOk)), api.Out{})
	// Of another ledger, of another epoch, of a place that has not the ledger: left aside.
	for _, does := range []func(r *api.Resp){func(r *api.Resp) { r.Ledger++ }, func(r *api.Resp) { r.Epoch++ }, func(r *api.Resp) { r.From = at(6, 1) }, func(r *api.Resp) { r.N++ }, func(r *api.Resp) { r.Kind = api.ReqFree }} {
		r := resp(x.Reqs[1], api.RespOk)
		does(&r)
		is(t, s.take(5, r), api.Out{})
	}
	replied(t, s.take(5, resp(x.Reqs[1], api.RespOk)), api.Reply{Client: 8, At: 1})
	is(t, s.take(5, resp(x.Reqs[1], api.RespOk)), api.Out{})
}

// P21.3: a writer that is fenced has lost the channel: who has sent is told so, all others that the channel is not its own.
func TestTakeFenced(t *testing.T) {
	s := writing(t, 1)
	s.calls(api.Call{Client: 7, Kind: api.CallAck, Sub: 1, At: 1})
	x := s.calls(publish(8, 1, 1))
	s.calls(read(6, 1, 0))
	s.calls(publish(5, 1, 1))
	far := resp(x.Reqs[0], api.RespFenced)
	far.From = at(6, 1)
	is(t, s.take(5, far), api.Out{})
	s.phase(api.OwnServes)
	replied(t, s.take(5, resp(x.Reqs[0], api.RespFenced)),
		api.Reply{Client: 7, Result: api.NotOwner}, api.Reply{Client: 8, Result: api.Fenced}, api.Reply{Client: 6, Result: api.NotOwner}, api.Reply{Client: 5, Result: api.Fenced})
	if x := s.o.Tell(); x != (api.Owning{Channel: 1}) {
		t.Errorf("%+v", x)
	}
	// What it had is no more: what comes of it is left aside.
	is(t, s.oks(x.Reqs), api.Out{})
	is(t, s.tick(30, firsts(7, 8, 9)...), api.Out{})
}

// P21.3: without a writer adds are nobody's.
func TestTakeAddInVain(t *testing.T) {
	for _, s := range []*scene{newScene(t), serving(t)} {
		for _, code := range []int{api.RespOk, api.RespFenced, api.RespFull, api.RespNone, api.RespStrange} {
			is(t, s.take(5, resp(add(at(7, 1), 1, 0, nil), code)), api.Out{})
			is(t, s.take(5, resp(api.Req{}, code)), api.Out{})
		}
	}
}

// P21.3: while it recovers, fences, gets and adds are the recovery's; then the ledger is closed as it found it, and what stands there is replayed.
func TestRecovers(t *testing.T) {
	s := begun(t, false, 0)
	x := s.grabs()
	fence := func(node int) api.Req { return api.Req{To: at(node, 1), Kind: api.ReqFence, Ledger: 1, Epoch: 2} }
	is(t, x, api.Out{Reqs: []api.Req{fence(7), fence(8), fence(9)}})
	s.phase(api.OwnRecovers)
	is(t, s.take(50, resp(fence(7), api.RespOk)), api.Out{})
	get := func(node int, n uint64) api.Req {
		return api.Req{To: at(node, 1), Kind: api.ReqGet, Ledger: 1, N: n, Epoch: 2}
	}
	is(t, s.take(50, resp(fence(8), api.RespOk)), api.Out{Reqs: []api.Req{get(7, 1), get(8, 1)}})
	x = s.take(50, has(get(7, 1), stored(9, 1)))
	copied := api.Req{To: at(8, 1), Kind: api.ReqAdd, Ledger: 1, N: 1, Epoch: 2, Body: stored(9, 1)}
	is(t, x, api.Out{Reqs: []api.Req{copied}})
	is(t, s.take(50, resp(copied, api.RespOk)), api.Out{Reqs: []api.Req{get(8, 2)}})
	closing := own(api.OpClose, api.Op{Epoch: 2, Ledger: 1, At: 1, Frags: []api.Frag{frag(1, firsts(7, 8, 9)...)}})
	asked(t, s.take(50, resp(get(8, 2), api.RespNone)), closing)
	is(t, s.take(50, resp(get(8, 2), api.RespNone)), api.Out{})
	is(t, s.tick(60), api.Out{})
	s.phase(api.OwnRecovers)
	x = s.decide(closing)
	s.phase(api.OwnReplays)
	tag := uint64(1 << 60)
	replay := api.Req{To: at(7, 1), Kind: api.ReqGet, Ledger: 1, N: 1, Epoch: tag}
	is(t, x, api.Out{Reqs: []api.Req{replay}})
	x = s.take(60, has(replay, stored(9, 1)))
	s.phase(api.OwnServes)
	asked(t, x, own(api.OpRenew, api.Op{Epoch: 2, Now: 60}))
}

// P21.3, 2: entries are replayed one behind the other, from First on; what is no entry is asked of another place.
func TestReplays(t *testing.T) {
	s := begun(t, true, 3)
	x := s.grabs()
	s.phase(api.OwnReplays)
	for n := uint64(1); n <= 3; n++ {
		if len(x.Reqs) != 1 || x.Reqs[0].N != n || x.Reqs[0].Kind != api.ReqGet || x.Reqs[0].Epoch != 1<<60+n-1 {
			t.Fatalf("%+v", x)
		}
		first := x.Reqs[0]
		// A tick later than the others' the next place is asked, and so on, round.
		is(t, s.tick(s.now+2), api.Out{})
		x = s.tick(s.now + 3)
		second := x.Reqs[0]
		if second.To == first.To || second.Epoch != first.Epoch {
			t.Fatalf("%+v", x)
		}
		s.now += 3
		for _, b := range [][]byte{nil, {1}, append(stored(9, n), 0), {16, 1, 0}, {9, 0, 0}} {
			x = s.take(s.now, has(second, b))
			first, second = second, x.Reqs[0]
			if second.To == first.To || len(x.Reqs) != 1 {
				t.Fatalf("%v: %+v", b, x)
			}
		}
		// Of the one that is not asked, too; it does not matter then.
		is(t, s.take(s.now, has(first, []byte{1})), api.Out{})
		// Under other tags nothing is known.
		for _, tag := range []uint64{second.Epoch - 1, second.Epoch + 1, 2, 0} {
			r := has(second, stored(9, n))
			r.Epoch = tag
			is(t, s.take(s.now, r), api.Out{})
		}
		s.phase(api.OwnReplays)
		x = s.take(s.now, has(second, stored(9, n)))
		is(t, s.take(s.now, has(second, stored(9, n))), api.Out{})
	}
	s.phase(api.OwnServes)
	if x := s.o.Tell(); x.Length != 3 || x.Ledger != 0 || x.Sure != 0 {
		t.Errorf("%+v", x)
	}
}

// P21.3: a reader is not told another entry than the one that is known to stand there.
func TestReads(t *testing.T) {
	s := writing(t, 3)
	x := s.calls(read(8, 1, 1))
	confirm := own(api.OpConfirm, api.Op{Epoch: 1})
	asked(t, x, confirm)
	x = s.decide(confirm)
	get := api.Req{To: at(8, 1), Kind: api.ReqGet, Ledger: 1, N: 2, Epoch: 1 << 60}
	is(t, x, api.Out{Reqs: []api.Req{get}})
	for i, b := range [][]byte{stored(9, 1), stored(9, 3), stored(8, 2), {1, 2, 3}, nil, stored(9, 2)[:4]} {
		x = s.take(5, has(get, b))
		get.To = at(8+(i+1)%2, 1)
		is(t, x, api.Out{Reqs: []api.Req{get}})
	}
	// The bytes are not known, just whose they are, and by which Seq.
	e, _ := entry.Encode(api.Entry{Producer: 9, Seq: 2, Body: []byte("other")})
	replied(t, s.take(5, has(get, e)), api.Reply{Client: 8, At: 1, Producer: 9, Seq: 2, Body: []byte("other")})
	is(t, s.take(5, has(get, e)), api.Out{})
}

// P21.3: gets of which there is no fetch, and gets and fences while nothing is recovered, are left aside.
func TestTakeInVain(t *testing.T) {
	for name, s := range map[string]*scene{"idle": newScene(t), "serves": serving(t), "writes": writing(t, 2)} {
		was := s.o.Tell()
		for _, kind := range []int{api.ReqFence, api.ReqGet, api.ReqFree, api.ReqHello, 0, 6, -1} {
			for _, tag := range []uint64{0, 1, 1<<60 - 1, 1 << 60, 1<<60 + 1, 1<<64 - 1} {
				for code := range 6 {
					r := api.Resp{From: at(7, 1), Kind: kind, Code: code, Ledger: 1, N: 1, Epoch: tag, Body: stored(9, 1)}
					is(t, s.take(s.now, r), api.Out{})
				}
			}
		}
		if x := s.o.Tell(); x != was {
			t.Errorf("%s: %+v", name, x)
		}
	}
}

// P21.3: below 1 << 60 a get's epoch is the recovery's, from there on a tag.
func TestEpochsAndTags(t *testing.T) {
	for epoch, heard := range map[uint64]bool{2: true, 1<<60 - 1: true, 1 << 60: false, 1<<60 + 1: false, top: false} {
		s := begun(t, false, 0)
		s.plan.Channels[0].Epoch = epoch - 1
		x := s.grabs()
		if len(x.Reqs) != 3 {
			t.Fatalf("%+v", x)
		}
		x = both(s.take(50, resp(x.Reqs[0], api.RespOk)), s.take(50, resp(x.Reqs[1], api.RespOk)))
		if len(x.Reqs) != 2 || x.Reqs[0].Epoch != epoch {
			t.Fatalf("%+v", x)
		}
		x = s.take(50, resp(x.Reqs[0], api.RespNone))
		if got := len(x.Ops) == 1; got != heard {
			t.Errorf("epoch %d: %+v", epoch, x)
		}
	}
}

// 1: whoever recovers with the plan's own channels of other numbers, closes its own channel's ledger.
func TestOtherChannel(t *testing.T) {
	p, _ := plan.Start(3)
	l := api.Ledger{Id: 4, W: 1, A: 1, Frags: []api.Frag{frag(1, at(7, 1))}}
	p.Next, p.Ledgers = 9, []api.Ledger{{Id: 2, W: 1, A: 1, Frags: l.Frags, Closed: 1, Last: 5}, l}
	p.Channels[0] = api.Channel{Epoch: 7, Owner: 4, Inc: 1, Ledgers: []uint64{2}}
	p.Channels[2] = api.Channel{Epoch: 3, Owner: 5, Inc: 1, First: 10, Trim: 10, Ledgers: []uint64{4}}
	s := &scene{pair: newPair(t, setup(), 3, p), plan: p, now: 5}
	c := read(9, 1, 10)
	c.Channel = 3
	x := s.call(5, c)
	x = s.decide(x.Ops[0])
	x = s.oks(x.Reqs)
	x = s.take(5, resp(x.Reqs[0], api.RespNone))
	asked(t, x, api.Op{Who: 5, Inc: 1, Kind: api.OpClose, Channel: 3, Epoch: 4, Ledger: 4, Frags: l.Frags})
	asked(t, s.decide(x.Ops[0]), api.Op{Who: 5, Inc: 1, Kind: api.OpConfirm, Channel: 3, Epoch: 4})
	if x := s.o.Tell(); x != (api.Owning{Channel: 3, Phase: api.OwnServes, Epoch: 4, Length: 10, Trim: 10, Calls: 1, Asked: api.OpConfirm}) {
		t.Errorf("%+v", x)
	}
}
