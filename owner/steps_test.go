package owner_test

import (
	"testing"

	"scrivener/api"
	"scrivener/ops"
)

// 1: the ledger is closed as it was found out, with the places on which its entries stand by then.
func TestCloses(t *testing.T) {
	s := begun(t, false, 0)
	x := s.grabs()
	x = both(s.take(50, resp(x.Reqs[0], api.RespOk)), s.take(50, resp(x.Reqs[1], api.RespOk)))
	s.take(50, has(x.Reqs[0], stored(9, 1)))
	x = s.tick(59, firsts(7, 9, 6)...)
	if len(x.Reqs) != 1 || x.Reqs[0].To != at(6, 1) || x.Reqs[0].Kind != api.ReqAdd {
		t.Fatalf("%+v", x)
	}
	x = s.take(59, resp(x.Reqs[0], api.RespOk))
	asked(t, s.take(59, resp(x.Reqs[0], api.RespNone)), own(api.OpClose, api.Op{Epoch: 2, Ledger: 1, At: 1, Frags: []api.Frag{frag(1, firsts(7, 6, 9)...)}}))
}

// 2: where there is nothing, or nothing more, to be replayed, it serves; what waited is begun.
func TestServes(t *testing.T) {
	for last := range uint64(9) {
		s := begun(t, true, last)
		x := s.grabs()
		for n := uint64(1); n <= last; n++ {
			s.phase(api.OwnReplays)
			if len(x.Reqs) != 1 || x.Reqs[0].N != n || len(x.Ops) > 0 {
				t.Fatalf("%+v", x)
			}
			x = s.take(50, has(x.Reqs[0], stored(9, n)))
		}
		asked(t, x, own(api.OpConfirm, api.Op{Epoch: 2}))
		if x := s.o.Tell(); x.Length != last || x.Phase != api.OwnServes {
			t.Errorf("%+v", x)
		}
	}
}

// 2: what is replayed goes from First through all ledgers; what stands ahead of that is as the plan has seen it.
func TestReplaysFromFirst(t *testing.T) {
	s := newScene(t)
	row := []api.Frag{frag(1, firsts(7, 8)...)}
	n := uint64(0)
	for _, o := range []api.Op{
		{Kind: api.OpGrab}, {Kind: api.OpLedger, Epoch: 1, W: 1, A: 1, Frags: row}, {Kind: api.OpClose, Epoch: 1, Ledger: 1, At: 3, Frags: row},
		{Kind: api.OpLedger, Epoch: 1, W: 1, A: 1, Frags: row}, {Kind: api.OpClose, Epoch: 1, Ledger: 2, At: 0, Frags: row},
		{Kind: api.OpLedger, Epoch: 1, W: 1, A: 1, Frags: row}, {Kind: api.OpClose, Epoch: 1, Ledger: 3, At: 2, Frags: row},
		{Kind: api.OpTrim, Epoch: 1, At: 4}, {Kind: api.OpForget, Epoch: 1, Ledger: 3, Seen: []api.Mark{{Producer: 8, Seq: 6, Offset: 1}, {Producer: 9, Seq: 4, Offset: 2}}},
	} {
		n++
		o.Who, o.Inc, o.N, o.Channel = 4, 1, n, 1
		s.plan, _ = ops.Apply(s.plan, o)
	}
	s.now = 50
	x := s.grabs()
	if len(x.Reqs) != 1 || x.Reqs[0].Ledger != 3 || x.Reqs[0].N != 1 {
		t.Fatalf("%+v", x)
	}
	x = s.take(50, has(x.Reqs[0], stored(9, 5)))
	s.take(50, has(x.Reqs[0], stored(7, 1)))
	s.phase(api.OwnServes)
	for _, c := range []struct {
		client int
		seq    uint64
		want   api.Reply
	}{
		{9, 5, api.Reply{At: 3}}, {9, 4, api.Reply{Result: api.BadRequest}}, {8, 6, api.Reply{At: 1}}, {8, 5, api.Reply{Result: api.BadRequest}}, {7, 1, api.Reply{At: 4}},
	} {
		n++
		c.want.Client, c.want.N = c.client, n
		replied(t, s.calls(publish(c.client, n, c.seq)), c.want)
	}
}

// 3: the entry that was fetched is told, to each who reads it.
func TestTells(t *testing.T) {
	s := writing(t, 3)
	confirm := s.calls(read(3, 1, 1)).Ops[0]
	s.calls(read(4, 1, 1))
	s.calls(read(6, 1, 0))
	x := both(s.decide(confirm), s.decide(confirm))
	if len(x.Reqs) != 3 {
		t.Fatalf("%+v", x)
	}
	for i, q := range x.Reqs {
		if q.Epoch != 1<<60+uint64(i) {
			t.Fatalf("%+v", x)
		}
	}
	done := func(client int, at uint64) api.Reply {
		return api.Reply{Client: client, At: at, Producer: 9, Seq: at + 1, Body: body(9, at+1)}
	}
	replied(t, s.take(5, has(x.Reqs[2], stored(9, 1))), done(6, 0))
	replied(t, s.take(5, has(x.Reqs[0], stored(9, 2))), done(3, 1))
	replied(t, s.take(5, has(x.Reqs[1], stored(9, 2))), done(4, 1))
}

// 4: publishes are answered in the order of the calls, as far as they are sure.
func TestSettles(t *testing.T) {
	s := writing(t, 1)
	var l []api.Req
	for client := 1; client <= 4; client++ {
		l = append(l, s.calls(publish(client, 1, 1)).Reqs...)
	}
	is(t, s.oks(l[2:]), api.Out{})
	is(t, s.take(5, resp(l[0], api.RespOk)), api.Out{})
	want := []api.Reply{{Client: 1, At: 1}, {Client: 2, At: 2}, {Client: 3, At: 3}, {Client: 4, At: 4}}
	replied(t, s.take(5, resp(l[1], api.RespOk)), want...)
	// One that has called anew waits behind the others.
	l = s.calls(publish(1, 2, 2)).Reqs
	l = append(l, s.calls(publish(2, 2, 2)).Reqs...)
	is(t, s.calls(publish(1, 3, 2)), api.Out{})
	is(t, s.oks(l[2:]), api.Out{})
	is(t, s.take(5, resp(l[0], api.RespOk)), api.Out{})
	replied(t, s.take(5, resp(l[1], api.RespOk)), api.Reply{Client: 2, N: 2, At: 6}, api.Reply{Client: 1, N: 3, At: 5})
}

// 5: a message is in the log once: who has published it before is told where it stands, once that is sure; what is older than that may not be.
func TestPublishes(t *testing.T) {
	s := writing(t, 2)
	replied(t, s.calls(publish(9, 10, 2)), api.Reply{Client: 9, N: 10, At: 1})
	replied(t, s.calls(publish(9, 11, 1)), api.Reply{Client: 9, N: 11, Result: api.BadRequest})
	x := s.calls(publish(9, 12, 7))
	is(t, x, api.Out{Reqs: []api.Req{add(at(9, 1), 3, 2, stored(9, 7)), add(at(7, 1), 3, 2, stored(9, 7))}})
	// An older one, while it is not sure that the later one stands there.
	is(t, s.calls(publish(9, 13, 6)), api.Out{})
	is(t, s.take(5, resp(x.Reqs[0], api.RespOk)), api.Out{})
	replied(t, s.take(5, resp(x.Reqs[1], api.RespOk)), api.Reply{Client: 9, N: 13, Result: api.BadRequest})
	// The same one, with other bytes: it is the one that stands there.
	c := publish(9, 14, 7)
	c.Body = []byte("other")
	replied(t, s.calls(c), api.Reply{Client: 9, N: 14, At: 2})
	// What waits new is in nobody's way.
	x = s.calls(publish(9, 15, 8))
	is(t, s.calls(publish(9, 16, 3)), api.Out{})
	y := s.calls(publish(8, 1, 1))
	if len(y.Reqs) != 2 || y.Reqs[0].N != 5 {
		t.Fatalf("%+v", y)
	}
	is(t, s.oks(y.Reqs), api.Out{})
	replied(t, s.oks(x.Reqs), api.Reply{Client: 8, At: 4}, api.Reply{Client: 9, N: 16, Result: api.BadRequest})
}

// 5: as many producers as there may be; those that are not sure count, too.
func TestProducers(t *testing.T) {
	s := writing(t, 1)
	var l []api.Req
	for client := 1; client <= 4; client++ {
		l = append(l, s.calls(publish(client, 1, 1)).Reqs...)
	}
	s.oks(l)
	x := s.calls(publish(6, 1, 1))
	replied(t, s.calls(publish(7, 1, 1)), api.Reply{Client: 7, Result: api.QuotaFull})
	is(t, s.calls(publish(6, 2, 1)), api.Out{})
	replied(t, s.oks(x.Reqs), api.Reply{Client: 6, N: 2, At: 5})
	replied(t, s.calls(publish(7, 2, 1)), api.Reply{Client: 7, N: 2, Result: api.QuotaFull})
	x = s.calls(publish(6, 3, 2))
	replied(t, s.oks(x.Reqs), api.Reply{Client: 6, N: 3, At: 6})
}

// 5: the operations of calls: who calls is who asks; what is behind the end is not trimmed.
func TestOperates(t *testing.T) {
	s := writing(t, 3)
	s.calls(publish(14, 1, 1))
	op := func(client, kind int, sub int, at uint64) api.Op {
		return api.Op{Who: client, Inc: 1, N: 1, Kind: kind, Channel: 1, Epoch: 1, Sub: sub, At: at}
	}
	for i, c := range []struct {
		call api.Call
		want api.Op
	}{
		{api.Call{Kind: api.CallTrim}, api.Op{Kind: api.OpTrim}}, {api.Call{Kind: api.CallTrim, At: 2}, api.Op{Kind: api.OpTrim, At: 2}}, {api.Call{Kind: api.CallTrim, At: 3}, api.Op{Kind: api.OpTrim, At: 3}}, {api.Call{Kind: api.CallTrim, At: 4}, api.Op{Kind: api.OpTrim, At: 3}}, {api.Call{Kind: api.CallTrim, At: top}, api.Op{Kind: api.OpTrim, At: 3}},
		{api.Call{Kind: api.CallAck, Sub: 3, At: top}, api.Op{Kind: api.OpAck, Sub: 3, At: top}}, {api.Call{Kind: api.CallSeek, Sub: 1}, api.Op{Kind: api.OpSeek, Sub: 1}}, {api.Call{Kind: api.CallCursor, Sub: 2}, api.Op{Kind: api.OpCursor, Sub: 2}},
	} {
		client := i + 1
		c.call.Client = client
		asked(t, s.calls(c.call), op(client, c.want.Kind, c.want.Sub, c.want.At))
	}
	if x := s.o.Tell(); x.Asked != 0 || x.Calls != 9 {
		t.Errorf("%+v", x)
	}
}

// 6: what the writer has bad is replaced ahead of all else; where nobody else is known, nothing is asked for, and nothing is bad.
func TestChange(t *testing.T) {
	s := writing(t, 0)
	x := s.calls(publish(8, 1, 1))
	s.calls(read(7, 1, 0))
	s.decide(own(api.OpConfirm, api.Op{Epoch: 1}))
	change := own(api.OpChange, api.Op{Epoch: 1, Ledger: 1, Frags: []api.Frag{frag(1, firsts(7, 9)...)}})
	asked(t, s.take(5, resp(x.Reqs[1], api.RespFull)), change)
	// While it is asked for nothing else is.
	is(t, s.take(5, resp(x.Reqs[0], api.RespFull)), api.Out{})
	is(t, s.tick(9, firsts(7, 8, 9)...), api.Out{Reqs: x.Reqs})

	s = writing(t, 0)
	x = s.calls(publish(8, 1, 1))
	s.tick(5, firsts(6, 9)...)
	asked(t, s.take(5, resp(x.Reqs[1], api.RespFull)), own(api.OpChange, api.Op{Epoch: 1, Ledger: 1, Frags: []api.Frag{frag(1, firsts(7, 6, 9)...)}}))

	// Of as many places as W none may go.
	s = newScene(t)
	s.tick(5, firsts(7, 8)...)
	x = s.calls(publish(8, 1, 1))
	x = s.decide(s.decide(x.Ops[0]).Ops[0])
	is(t, s.take(5, resp(x.Reqs[1], api.RespFull)), api.Out{})
	x = s.tick(20, firsts(7, 8)...)
	if len(x.Ops) != 1 || !alike(x.Ops[0], own(api.OpRenew, api.Op{Epoch: 1, Now: 20})) {
		t.Errorf("%+v", x)
	}
}

// 6: a ledger with as many entries as it may have is closed once all are sure; the next one's entries stand behind.
func TestFill(t *testing.T) {
	s := writing(t, 7)
	x := s.calls(publish(8, 1, 1))
	is(t, s.calls(publish(7, 1, 1)), api.Out{})
	is(t, s.take(5, resp(x.Reqs[0], api.RespOk)), api.Out{})
	closing := own(api.OpClose, api.Op{Epoch: 1, Ledger: 1, At: 8, Frags: []api.Frag{frag(1, firsts(7, 8, 9)...)}})
	is(t, s.take(5, resp(x.Reqs[1], api.RespOk)), api.Out{Ops: []api.Op{closing}, Replies: []api.Reply{{Client: 8, Inc: 1, N: 1, At: 7}}})
	is(t, s.calls(publish(6, 1, 1)), api.Out{})
	x = s.decide(closing)
	ledger := own(api.OpLedger, api.Op{Epoch: 1, W: 2, A: 2, Frags: []api.Frag{frag(1, firsts(7, 8, 9)...)}})
	asked(t, x, ledger)
	if x := s.o.Tell(); x.Ledger != 0 || x.Length != 8 {
		t.Errorf("%+v", x)
	}
	x = s.decide(ledger)
	if len(x.Reqs) != 4 || x.Reqs[0].Ledger != 2 || x.Reqs[0].N != 1 || x.Reqs[2].N != 2 {
		t.Fatalf("%+v", x)
	}
	replied(t, s.oks(x.Reqs), api.Reply{Client: 7, At: 8}, api.Reply{Client: 6, At: 9})
}

// 6: a ledger is made of the places that are known, as soon as there are W; where another one stands open that it does not write, it has lost.
func TestOpen(t *testing.T) {
	s := serving(t)
	is(t, s.calls(publish(8, 1, 1)), api.Out{})
	s.calls(publish(7, 1, 1))
	is(t, s.tick(5), api.Out{})
	is(t, s.tick(5, at(7, 1), at(7, 2)), api.Out{})
	ledger := own(api.OpLedger, api.Op{Epoch: 1, W: 2, A: 2, Frags: []api.Frag{frag(1, at(7, 1), at(3, 9))}})
	asked(t, s.tick(5, at(7, 1), at(7, 2), at(3, 9)), ledger)
	x := s.decide(ledger)
	if len(x.Reqs) != 4 {
		t.Errorf("%+v", x)
	}

	s = serving(t)
	s.calls(publish(8, 1, 1))
	p := twin(s.plan)
	p.Version++
	p.Next, p.Channels[0].Ledgers = 2, []uint64{1}
	p.Ledgers = []api.Ledger{{Id: 1, W: 1, A: 1, Frags: []api.Frag{frag(1, at(7, 1))}}}
	is(t, s.decided(5, api.Decided{Plan: p}), api.Out{})
	s.phase(api.OwnServes)
	replied(t, s.tick(5, firsts(7, 8, 9)...), api.Reply{Client: 8, Result: api.NotOwner})
	s.phase(api.OwnIdle)
}

// 6: just messages have a ledger be made, and just as long as there is no writer.
func TestNoOpen(t *testing.T) {
	s := serving(t, firsts(7, 8, 9)...)
	for client, kind := range []int{1: api.CallRead, api.CallTrim, api.CallAck, api.CallSeek, api.CallCursor} {
		c := api.Call{Client: client, Kind: kind}
		if kind >= api.CallAck {
			c.Sub = 1
		}
		if kind != 0 {
			for _, o := range s.calls(c).Ops {
				if o.Kind == api.OpLedger {
					t.Errorf("%+v", o)
				}
			}
		}
	}
	s = writing(t, 2)
	s.calls(publish(9, 20, 9))
	is(t, s.calls(publish(9, 21, 8)), api.Out{})
}

// 6: the channel is kept: a third of Lease behind it was asked for last.
func TestRenew(t *testing.T) {
	s := serving(t)
	renew := func(now uint64) api.Op { return own(api.OpRenew, api.Op{Epoch: 1, Now: now}) }
	for _, now := range []uint64{0, 4, 5, 6, 8} {
		is(t, s.tick(now), api.Out{})
	}
	asked(t, s.tick(9), renew(9))
	is(t, s.tick(30), api.Out{})
	s.now = 30
	asked(t, s.decide(renew(9)), renew(30))
	s.now = 2
	is(t, s.decide(renew(30)), api.Out{})
	for _, now := range []uint64{0, 26, 30, 33} {
		is(t, s.tick(now), api.Out{})
	}
	asked(t, s.tick(34), renew(34))
	// Whatever has it go on.
	for i, does := range []func(s *scene) api.Out{
		func(s *scene) api.Out { return s.tick(9) },
		func(s *scene) api.Out { return s.take(9, api.Resp{}) },
		func(s *scene) api.Out { return s.decided(9, api.Decided{}) },
		func(s *scene) api.Out { return s.call(9, read(8, 1, 0)) },
	} {
		s := serving(t)
		if x := does(s); len(x.Ops) != 1 || !alike(x.Ops[0], renew(9)) {
			t.Errorf("%d: %+v", i, x)
		}
	}
}

// 6: that the channel was asked for counts from when it was, not from when it came.
func TestRenewBehindGrab(t *testing.T) {
	s := newScene(t)
	s.calls(read(8, 1, 0))
	s.now = 40
	asked(t, s.decide(own(api.OpGrab, api.Op{Now: 5})), own(api.OpRenew, api.Op{Epoch: 1, Now: 40}))
	// Nothing is renewed while it recovers, or replays.
	for _, closed := range []bool{false, true} {
		s := begun(t, closed, 3*uint64(len("x")))
		s.grabs()
		for now := uint64(51); now < 99; now++ {
			if x := s.tick(now, firsts(7, 8, 9)...); len(x.Ops) > 0 {
				t.Errorf("%+v", x)
			}
		}
	}
}

// 6: all reads that wait by then are asked for at once; those that come later wait for the next time.
func TestConfirm(t *testing.T) {
	s := serving(t)
	x := s.tick(9)
	for client := 1; client <= 3; client++ {
		is(t, s.call(9, read(client, 1, 0)), api.Out{})
	}
	s.now = 9
	confirm := own(api.OpConfirm, api.Op{Epoch: 1})
	asked(t, s.decide(x.Ops[0]), confirm)
	is(t, s.calls(read(4, 1, 0)), api.Out{})
	is(t, s.decide(confirm), api.Out{Ops: []api.Op{confirm}, Replies: []api.Reply{
		{Client: 1, Inc: 1, N: 1, Result: api.NotFound}, {Client: 2, Inc: 1, N: 1, Result: api.NotFound}, {Client: 3, Inc: 1, N: 1, Result: api.NotFound},
	}})
	replied(t, s.decide(confirm), api.Reply{Client: 4, Result: api.NotFound})
}

// 6: what was trimmed is forgotten; who has published there is told to the plan, as it was seen.
func TestForget(t *testing.T) {
	s := writing(t, 5)
	for i, client := range []int{4, 3} {
		s.oks(s.calls(publish(client, 1, 7)).Reqs)
		if x := s.o.Tell(); x.Sure != uint64(6+i) {
			t.Fatalf("%+v", x)
		}
	}
	x := s.oks(s.calls(publish(3, 2, 8)).Reqs)
	x = s.decide(x.Ops[0])
	x = s.calls(publish(9, 30, 30))
	x = s.oks(s.decide(x.Ops[0]).Reqs)
	replied(t, x, api.Reply{Client: 9, N: 30, At: 8})
	trim := s.calls(api.Call{Client: 1, Kind: api.CallTrim, At: 7}).Ops[0]
	replied(t, s.decide(trim), api.Reply{Client: 1, At: 7})
	trim = s.calls(api.Call{Client: 1, N: 2, Kind: api.CallTrim, At: 9}).Ops[0]
	x = s.decide(trim)
	forget := own(api.OpForget, api.Op{Epoch: 1, Ledger: 2, Seen: []api.Mark{{Producer: 3, Seq: 8, Offset: 7}, {Producer: 4, Seq: 7, Offset: 5}, {Producer: 9, Seq: 5, Offset: 4}}})
	is(t, x, api.Out{Ops: []api.Op{forget}, Replies: []api.Reply{{Client: 1, Inc: 1, N: 2, At: 9}}})
	is(t, s.decide(forget), api.Out{})
	if x := s.plan.Channels[0]; x.First != 8 || len(x.Ledgers) != 1 || len(x.Seen) != 3 {
		t.Errorf("%+v", x)
	}
}

// 6: what goes ahead of what: what is bad, what is full, what has no ledger, the lease, reads, what was trimmed.
func TestOrder(t *testing.T) {
	s := writing(t, 7)
	x := s.calls(publish(8, 1, 1))
	asked(t, s.calls(api.Call{Client: 1, Kind: api.CallTrim, At: 7}), api.Op{Who: 1, Inc: 1, N: 1, Kind: api.OpTrim, Channel: 1, Epoch: 1, At: 7})
	s.calls(read(2, 1, 7))
	s.now = 6
	s.calls(publish(3, 1, 1))
	s.calls(read(4, 1, 7))
	s.tick(20)
	var kinds []int
	next := own(api.OpConfirm, api.Op{Epoch: 1})
	// By then the eighth entry is sure, node 9 is full, the lease is to be renewed, and there is a read that wants.
	s.oks(x.Reqs)
	far := add(at(9, 1), 9, 0, nil)
	s.take(20, resp(far, api.RespFull))
	s.now = 20
	s.tick(20, firsts(7, 8, 6)...)
	for range 9 {
		kinds = append(kinds, next.Kind)
		if next.Kind == api.OpClose {
			s.decideOther(api.Op{Who: 1, Inc: 1, N: 1, Kind: api.OpTrim, Channel: 1, Epoch: 1, At: 8})
		}
		x := s.decide(next)
		if len(x.Ops) == 0 {
			break
		}
		next = x.Ops[0]
	}
	want := []int{api.OpConfirm, api.OpChange, api.OpClose, api.OpLedger, api.OpRenew, api.OpConfirm, api.OpForget}
	if !alike(kinds, want) {
		t.Errorf("%d, not %d", kinds, want)
	}
}

// decideOther has the plan do an operation of which the owner is not told, but by the plan.
func (s *scene) decideOther(o api.Op) { s.plan, _ = ops.Apply(s.plan, o) }
