package owner_test

import (
	"fmt"
	"testing"

	"scrivener/api"
	"scrivener/ops"
	"scrivener/plan"
)

// codes tells all codes, and some that are none.
func codes() []api.Errno { return []api.Errno{0, 1, 2, 3, 4, 5, 6, 7, 8, 9, 10, -1} }

// asking tells a scene whose owner asks for an operation of a kind, with that operation; while the client 7 waits for an ack.
func asking(t *testing.T, kind int) (*scene, api.Op) {
	t.Helper()
	waits := api.Call{Client: 7, Kind: api.CallAck, Sub: 1, At: 2}
	var s *scene
	var x api.Out
	switch kind {
	case api.OpGrab:
		s = newScene(t)
		x = s.calls(waits)
	case api.OpRenew:
		s = writing(t, 1)
		s.calls(waits)
		x = s.tick(9, firsts(7, 8, 9)...)
	case api.OpConfirm:
		s = writing(t, 1)
		s.calls(waits)
		x = s.calls(read(8, 1, 0))
	case api.OpLedger:
		s = serving(t, firsts(7, 8, 9)...)
		s.calls(waits)
		x = s.calls(publish(8, 1, 1))
	case api.OpChange:
		s = writing(t, 1)
		s.calls(waits)
		x = s.calls(publish(8, 1, 1))
		x = s.take(5, resp(x.Reqs[0], api.RespFull))
	case api.OpClose:
		s = writing(t, 7)
		s.calls(waits)
		x = s.oks(s.calls(publish(8, 1, 1)).Reqs)
	case api.OpForget:
		s = full(t)
		s.calls(waits)
		x = s.calls(api.Call{Client: 8, Kind: api.CallTrim, At: 8})
		x = s.decide(x.Ops[0])
	}
	if len(x.Ops) != 1 || x.Ops[0].Kind != kind || s.o.Tell().Asked != kind {
		t.Fatalf("%d is not asked for: %+v", kind, x)
	}
	return s, x.Ops[0]
}

// full tells a scene whose owner has written a whole ledger, which is closed.
func full(t *testing.T) *scene {
	t.Helper()
	s := writing(t, 7)
	x := s.oks(s.calls(publish(8, 9, 1)).Reqs)
	closing := own(api.OpClose, api.Op{Epoch: 1, Ledger: 1, At: 8, Frags: []api.Frag{frag(1, firsts(7, 8, 9)...)}})
	is(t, x, api.Out{Ops: []api.Op{closing}, Replies: []api.Reply{{Client: 8, Inc: 1, N: 9, At: 7}}})
	is(t, s.decide(closing), api.Out{})
	return s
}

// P21.4: which outcomes of its own operations have it go on, and by which it has lost the channel, and to whom.
func TestOwnOutcomes(t *testing.T) {
	type fate struct{ goes, told bool }
	for kind, heeded := range map[int]map[api.Errno]fate{
		api.OpGrab:    {api.OK: {goes: true}, api.ErrState: {told: true}, api.ErrFull: {told: true}, api.ErrNone: {told: true}},
		api.OpRenew:   {api.OK: {goes: true}},
		api.OpConfirm: {api.OK: {goes: true}},
		api.OpLedger:  {api.OK: {goes: true}, api.ErrFull: {goes: true}},
		api.OpChange:  {api.OK: {goes: true}, api.ErrState: {goes: true}, api.ErrFull: {goes: true}},
		api.OpClose:   {api.OK: {goes: true}},
		api.OpForget:  {api.OK: {goes: true}, api.ErrState: {goes: true}},
	} {
		for _, code := range codes() {
			t.Run(fmt.Sprintf("%d, %d", kind, code), func(t *testing.T) {
				s, o := asking(t, kind)
				want := heeded[code]
				want.told = want.told || code == api.ErrStale
				o.N = 77
				x := s.told(o, api.Outcome{Code: code, Epoch: 1, Owner: 6, Ledger: 1})
				tells := s.o.Tell()
				if want.goes {
					if tells.Phase != api.OwnServes || tells.Epoch != 1 {
						t.Fatalf("%+v: %+v", x, tells)
					}
					return
				}
				if tells != (api.Owning{Channel: 1}) || len(x.Ops) > 0 || len(x.Reqs) > 0 || len(x.Replies) == 0 {
					t.Fatalf("%+v: %+v", x, tells)
				}
				for _, r := range x.Replies {
					if r.Result != api.NotOwner && r.Result != api.Fenced || (r.Owner == 6) != want.told || (r.Owner == 0) == want.told {
						t.Errorf("%+v", r)
					}
				}
			})
		}
	}
}

// P21.4: what was asked for is told by all but its number; another one is another's, and what was asked for is asked for yet.
func TestOwnIsTheSameButForN(t *testing.T) {
	for _, kind := range []int{api.OpGrab, api.OpRenew, api.OpConfirm, api.OpLedger, api.OpChange, api.OpClose, api.OpForget} {
		for name, does := range map[string]func(o *api.Op){
			"Who": func(o *api.Op) { o.Who++ }, "Inc": func(o *api.Op) { o.Inc++ }, "Kind": func(o *api.Op) { o.Kind = 12 }, "Channel": func(o *api.Op) { o.Channel++ }, "Epoch": func(o *api.Op) { o.Epoch++ }, "Ledger": func(o *api.Op) { o.Ledger++ },
			"At": func(o *api.Op) { o.At++ }, "Now": func(o *api.Op) { o.Now++ }, "Sub": func(o *api.Op) { o.Sub++ }, "W": func(o *api.Op) { o.W++ }, "A": func(o *api.Op) { o.A++ }, "From": func(o *api.Op) { o.From.Node++ }, "To": func(o *api.Op) { o.To.Serial++ },
			"Frags": func(o *api.Op) {
				if len(o.Frags) > 0 {
					o.Frags[0].Bookies[0].Serial++
				} else {
					o.Frags = []api.Frag{{}}
				}
			},
			"fewer Frags": func(o *api.Op) {
				if len(o.Frags) > 0 {
					o.Frags = nil
				} else {
					o.Frags = []api.Frag{{}}
				}
			},
			"Seen": func(o *api.Op) {
				if len(o.Seen) > 0 {
					o.Seen[0].Seq++
				} else {
					o.Seen = []api.Mark{{}}
				}
			},
		} {
			s, o := asking(t, kind)
			for n := range uint64(3) {
				other := twin(o)
				other.N = n
				does(&other)
				is(t, s.told(other, api.Outcome{Code: api.OK, Epoch: 1, Ledger: 1}), api.Out{})
				if x := s.o.Tell(); x.Asked != kind {
					t.Errorf("%s of %d: %+v", name, kind, x)
				}
			}
			o.N = 5
			s.told(o, api.Outcome{Code: api.ErrStale})
			if x := s.o.Tell(); x.Asked != 0 {
				t.Errorf("%s of %d: %+v", name, kind, x)
			}
		}
	}
}

// P21.4: what was asked for is decided once; and what was asked for ahead of a loss is left aside, but for the plan.
func TestOwnLeftAside(t *testing.T) {
	s, o := asking(t, api.OpLedger)
	x := s.decide(o)
	if len(x.Reqs) != 2 {
		t.Fatalf("%+v", x)
	}
	is(t, s.told(o, api.Outcome{Code: api.ErrStale, Owner: 4}), api.Out{})
	s.phase(api.OwnServes)

	s, o = asking(t, api.OpLedger)
	grab := api.Op{Who: 4, Inc: 1, N: 1, Kind: api.OpGrab, Channel: 1, Now: 17}
	replied(t, s.decide(grab), api.Reply{Client: 7, Result: api.NotOwner, Owner: 4}, api.Reply{Client: 8, Result: api.NotOwner, Owner: 4})
	was := s.o.Plan()
	is(t, s.decide(o), api.Out{})
	s.phase(api.OwnIdle)
	if !alike(s.o.Plan(), was) {
		t.Errorf("%+v", s.o.Plan())
	}
	is(t, s.decide(api.Op{Who: 4, Inc: 1, N: 2, Kind: api.OpRenew, Channel: 1, Epoch: 2, Now: 30}), api.Out{})
	if x := s.o.Plan(); x.Version != was.Version+1 {
		t.Errorf("%+v", x)
	}
}

// P21.4: an operation that is none is nobody's where nothing is asked for.
func TestNoOperation(t *testing.T) {
	for _, s := range []*scene{newScene(t), serving(t), writing(t, 3)} {
		was := s.o.Tell()
		for _, code := range codes() {
			is(t, s.told(api.Op{}, api.Outcome{Code: code, Owner: 3}), api.Out{})
			is(t, s.told(api.Op{Who: 5, Inc: 1, N: 1}, api.Outcome{Code: code, Owner: 3}), api.Out{})
		}
		if x := s.o.Tell(); x != was {
			t.Errorf("%+v", x)
		}
	}
}

// P21.4: a plan is taken if its Version is above that of the one that is known.
func TestPlans(t *testing.T) {
	s := writing(t, 1)
	was := s.o.Plan()
	for _, by := range []int{-1, 0, 1, 5} {
		p := twin(was)
		p.Version += uint64(by)
		p.Channels[0].Trim = 1
		want := was
		if by > 0 {
			want = p
		}
		is(t, s.decided(5, api.Decided{Plan: p}), api.Out{})
		if got := s.o.Plan(); !alike(got, want) {
			t.Errorf("%d: %+v", by, got)
		}
		if x := s.o.Tell(); x.Trim != want.Channels[0].Trim {
			t.Errorf("%d: %+v", by, x)
		}
		s = writing(t, 1)
	}
}

// P21.4: once it has the channel, what is open there is recovered, else all is replayed.
func TestGrabbed(t *testing.T) {
	s := begun(t, false, 0)
	s.grabs()
	if x := s.o.Tell(); x != (api.Owning{Channel: 1, Phase: api.OwnRecovers, Epoch: 2, Calls: 1}) {
		t.Errorf("%+v", x)
	}
	s = begun(t, true, 2)
	s.grabs()
	if x := s.o.Tell(); x != (api.Owning{Channel: 1, Phase: api.OwnReplays, Epoch: 2, Calls: 1}) {
		t.Errorf("%+v", x)
	}
	s = begun(t, true, 0)
	asked(t, s.grabs(), own(api.OpConfirm, api.Op{Epoch: 2}))
	if x := s.o.Tell(); x != (api.Owning{Channel: 1, Phase: api.OwnServes, Epoch: 2, Calls: 1, Asked: api.OpConfirm}) {
		t.Errorf("%+v", x)
	}
}

// P21.4: somebody else has the channel.
func TestNotGrabbed(t *testing.T) {
	s := begun(t, false, 0)
	s.now = 3
	s.calls(read(15, 1, 0))
	s.calls(publish(9, 1, 1))
	replied(t, s.decide(own(api.OpGrab, api.Op{Now: 3})), api.Reply{Client: 15, Result: api.NotOwner, Owner: 4}, api.Reply{Client: 9, Result: api.NotOwner, Owner: 4})
	s.phase(api.OwnIdle)
}

// P21.4: a ledger without room for more has the publishes that are new end; others go on.
func TestNoLedger(t *testing.T) {
	s := full(t)
	s.calls(api.Call{Client: 7, Kind: api.CallAck, Sub: 1, At: 2})
	x := s.calls(publish(6, 1, 1))
	s.calls(publish(4, 1, 1))
	s.calls(publish(8, 10, 1))
	s.calls(read(3, 1, 1))
	got := s.told(x.Ops[0], api.Outcome{Code: api.ErrFull})
	is(t, got, api.Out{Ops: []api.Op{own(api.OpConfirm, api.Op{Epoch: 1})}, Replies: []api.Reply{{Client: 6, Inc: 1, N: 1, Result: api.QuotaFull}, {Client: 4, Inc: 1, N: 1, Result: api.QuotaFull}}})
	if x := s.o.Tell(); x.Calls != 2 || x.Ledger != 0 {
		t.Errorf("%+v", x)
	}
}

// P21.4: a ledger that is not there, or not open, has no writer; what waits for one waits.
func TestNoWriter(t *testing.T) {
	for _, ledger := range []uint64{0, 1, 2, 99} {
		s := full(t)
		x := s.calls(publish(6, 1, 1))
		got := s.told(x.Ops[0], api.Outcome{Code: api.OK, Ledger: ledger})
		asked(t, got, x.Ops...)
		if y := s.o.Tell(); y.Ledger != 0 || y.Phase != api.OwnServes {
			t.Errorf("%d: %+v", ledger, y)
		}
	}
}

// P21.4: the writer is told whether a change was taken.
func TestChanged(t *testing.T) {
	for code, to := range map[api.Errno]int{api.OK: 6, api.ErrState: 7, api.ErrFull: 7} {
		s := writing(t, 0)
		s.tick(5, firsts(7, 8, 9, 6)...)
		x := s.calls(publish(8, 1, 1))
		x = s.take(5, resp(x.Reqs[0], api.RespFull))
		change := own(api.OpChange, api.Op{Epoch: 1, Ledger: 1, Frags: []api.Frag{frag(1, firsts(6, 8, 9)...)}})
		asked(t, x, change)
		got := s.told(change, api.Outcome{Code: code})
		is(t, got, api.Out{Reqs: []api.Req{add(at(to, 1), 1, 0, stored(8, 1)), add(at(8, 1), 1, 0, stored(8, 1))}})
	}
}

// P21.4: reads that were confirmed: what was trimmed, what is not there as yet, and what is fetched.
func TestConfirmed(t *testing.T) {
	s := writing(t, 3)
	s.calls(publish(14, 1, 1)) // which is not sure
	confirm := own(api.OpConfirm, api.Op{Epoch: 1})
	asked(t, s.calls(read(1, 1, 0)), confirm)
	is(t, s.calls(read(2, 1, 1)), api.Out{}) // which waits for the next one
	x := s.told(confirm, api.Outcome{Code: api.OK, At: 1})
	is(t, x, api.Out{Ops: []api.Op{confirm}, Replies: []api.Reply{{Client: 1, Inc: 1, N: 1, Result: api.Trimmed}}})
	for client := 3; client <= 8; client++ {
		is(t, s.calls(read(client, 1, uint64(client)-2)), api.Out{})
	}
	s.told(confirm, api.Outcome{Code: api.OK})
	x = s.told(confirm, api.Outcome{Code: api.OK, At: 2})
	get := api.Req{To: at(9, 1), Kind: api.ReqGet, Ledger: 1, N: 3, Epoch: 1<<60 + 1}
	is(t, x, api.Out{Reqs: []api.Req{get}, Replies: []api.Reply{
		{Client: 3, Inc: 1, N: 1, Result: api.Trimmed, At: 1},
		{Client: 5, Inc: 1, N: 1, Result: api.NotFound, At: 3}, {Client: 6, Inc: 1, N: 1, Result: api.NotFound, At: 4}, {Client: 7, Inc: 1, N: 1, Result: api.NotFound, At: 5}, {Client: 8, Inc: 1, N: 1, Result: api.NotFound, At: 6},
	}})
	replied(t, s.take(5, has(get, stored(9, 3))), api.Reply{Client: 4, At: 2, Producer: 9, Seq: 3, Body: body(9, 3)})
}

// P21.4: what the plan did for a call.
func TestCallOutcomes(t *testing.T) {
	for kind, c := range map[int]api.Call{
		api.OpTrim: {Kind: api.CallTrim, At: 1}, api.OpAck: {Kind: api.CallAck, Sub: 2, At: 4}, api.OpSeek: {Kind: api.CallSeek, Sub: 2, At: 4}, api.OpCursor: {Kind: api.CallCursor, Sub: 2},
	} {
		for _, code := range codes() {
			s := writing(t, 2)
			c.Client, c.Inc, c.N = 7, 3, 4
			o := api.Op{Who: 7, Inc: 3, N: 4, Kind: kind, Channel: 1, Epoch: 1, Sub: c.Sub, At: c.At}
			asked(t, s.calls(c), o)
			s.calls(publish(8, 1, 1))
			got := s.told(o, api.Outcome{Code: code, At: 9, Owner: 6})
			want := api.Reply{Client: 7, Inc: 3, N: 4, Result: api.BadRequest}
			switch code {
			case api.OK:
				want.Result, want.At = api.Done, 9
			case api.ErrFull:
				want.Result = api.QuotaFull
			case api.ErrNone:
				want.Result = api.NotFound
			case api.ErrStale:
				want.Result, want.Owner = api.NotOwner, 6
				is(t, got, api.Out{Replies: []api.Reply{want, {Client: 8, Inc: 1, N: 1, Result: api.Fenced, Owner: 6}}})
				s.phase(api.OwnIdle)
				continue
			}
			is(t, got, api.Out{Replies: []api.Reply{want}})
			is(t, s.told(o, api.Outcome{Code: code, At: 9, Owner: 6}), api.Out{})
			s.phase(api.OwnServes)
		}
	}
}

// P21.4: a call's operation is told by who calls, by its life and number, and by its kind, and by nothing else.
func TestCallOperation(t *testing.T) {
	for name, does := range map[string]func(o *api.Op){
		"Who": func(o *api.Op) { o.Who++ }, "Inc": func(o *api.Op) { o.Inc++ }, "N": func(o *api.Op) { o.N++ }, "Kind": func(o *api.Op) { o.Kind = api.OpSeek }, "no Kind": func(o *api.Op) { o.Kind = 0 },
	} {
		s := writing(t, 2)
		o := s.calls(api.Call{Client: 7, Inc: 3, N: 4, Kind: api.CallAck, Sub: 2, At: 4}).Ops[0]
		does(&o)
		is(t, s.told(o, api.Outcome{At: 9}), api.Out{})
		if x := s.o.Tell(); x.Calls != 1 {
			t.Errorf("%s: %+v", name, x)
		}
	}
	s := writing(t, 2)
	o := s.calls(api.Call{Client: 7, Inc: 3, N: 4, Kind: api.CallAck, Sub: 2, At: 4}).Ops[0]
	o.Sub, o.At, o.Epoch, o.Channel = 1, 1, 9, 2
	is(t, s.told(o, api.Outcome{At: 9}), api.Out{Replies: []api.Reply{{Client: 7, Inc: 3, N: 4, At: 9}}})
}

// P21.4: a call that waits new is not done by the plan, though an operation like its own was.
func TestNewCallIsNotDone(t *testing.T) {
	s := begun(t, true, 2)
	s.grabs()
	s.calls(api.Call{Client: 7, Inc: 3, N: 4, Kind: api.CallAck, Sub: 2, At: 4})
	is(t, s.told(api.Op{Who: 7, Inc: 3, N: 4, Kind: api.OpAck, Channel: 1, Epoch: 2, Sub: 2, At: 4}, api.Outcome{At: 4}), api.Out{})
	if x := s.o.Tell(); x.Calls != 2 || x.Phase != api.OwnReplays {
		t.Errorf("%+v", x)
	}
}

// P21.4: by another's operation an owner that has the channel learns that somebody else has it, whatever it was.
func TestLostByPlan(t *testing.T) {
	for name, s := range map[string]*scene{"serves": serving(t), "writes": writing(t, 2), "recovers": begun(t, false, 0), "replays": begun(t, true, 3)} {
		phase := map[string]int{"serves": api.OwnServes, "writes": api.OwnServes, "recovers": api.OwnRecovers, "replays": api.OwnReplays}[name]
		if s.o.Tell().Phase == api.OwnIdle {
			s.grabs()
		}
		s.phase(phase)
		s.calls(read(8, 1, 1))
		calls := s.o.Tell().Calls
		// A plan that is not newer tells nothing.
		p := twin(s.plan)
		p.Channels[0].Epoch, p.Channels[0].Owner, p.Channels[0].Inc = 9, 3, 1
		is(t, s.decided(s.now, api.Decided{Plan: p}), api.Out{})
		s.phase(phase)
		p.Version++
		x := s.decided(s.now, api.Decided{Plan: p})
		if len(x.Replies) != calls {
			t.Fatalf("%s: %+v", name, x)
		}
		for _, r := range x.Replies {
			if r.Result != api.NotOwner || r.Owner != 3 {
				t.Errorf("%s: %+v", name, r)
			}
		}
		s.phase(api.OwnIdle)
	}
	// One that has none loses none.
	s := newScene(t)
	s.calls(read(8, 1, 1))
	p := twin(s.plan)
	p.Version, p.Channels[0] = 3, api.Channel{Epoch: 9, Owner: 3, Inc: 1}
	is(t, s.decided(5, api.Decided{Plan: p}), api.Out{})
	s.phase(api.OwnGrabs)
	// One of a lesser epoch, or of none, is another one, too.
	for _, epoch := range []uint64{0, 1} {
		s := begun(t, true, 3)
		s.grabs()
		p := twin(s.plan)
		p.Version++
		p.Channels[0].Epoch = epoch
		if x := s.decided(s.now, api.Decided{Plan: p}); len(x.Replies) != 1 || x.Replies[0].Owner != 5 {
			t.Errorf("%+v", x)
		}
		s.phase(api.OwnIdle)
	}
}

// P21.4: what is fetched is asked of other places, where the plan has its entry there from now on.
func TestMoved(t *testing.T) {
	replaced := func(s *scene) api.Out {
		return s.decide(api.Op{Who: 3, Inc: 1, N: 1, Kind: api.OpReplace, Ledger: 1, From: at(7, 1), To: at(6, 2)})
	}
	s := full(t)
	confirm := s.calls(read(3, 1, 0)).Ops[0]
	s.calls(read(4, 1, 7))
	s.calls(read(2, 1, 1))
	x := both(s.decide(confirm), s.decide(confirm))
	if len(x.Reqs) != 3 {
		t.Fatalf("%+v", x)
	}
	s.tick(8, firsts(7, 8, 9)...)
	get := api.Req{To: at(6, 2), Kind: api.ReqGet, Ledger: 1, N: 1, Epoch: 1 << 60}
	is(t, replaced(s), api.Out{Reqs: []api.Req{get}})
	replied(t, s.take(8, has(get, stored(9, 1))), api.Reply{Client: 3, Producer: 9, Seq: 1, Body: body(9, 1)})

	s = begun(t, true, 2)
	x = s.grabs()
	is(t, replaced(s), api.Out{Reqs: []api.Req{get}})
	x = s.take(50, has(get, stored(9, 1)))
	if len(x.Reqs) != 1 || x.Reqs[0].N != 2 {
		t.Errorf("%+v", x)
	}
}

// P21.4: a read of a ledger that is no more is answered as trimmed.
func TestFetchedIsGone(t *testing.T) {
	s := full(t)
	x := s.calls(publish(6, 1, 1))
	s.oks(s.decide(x.Ops[0]).Reqs)
	confirm := s.calls(read(3, 1, 8)).Ops[0]
	s.calls(read(4, 1, 6))
	s.calls(read(2, 1, 7))
	s.decide(confirm)
	s.decide(confirm)
	x = s.calls(api.Call{Client: 1, Kind: api.CallTrim, At: 8})
	forget := s.decide(x.Ops[0]).Ops[0]
	asked(t, api.Out{Ops: []api.Op{forget}}, own(api.OpForget, api.Op{Epoch: 1, Ledger: 2, Seen: []api.Mark{{Producer: 8, Seq: 1, Offset: 7}, {Producer: 9, Seq: 7, Offset: 6}}}))
	replied(t, s.decide(forget), api.Reply{Client: 4, Result: api.Trimmed, At: 6}, api.Reply{Client: 2, Result: api.Trimmed, At: 7})
	if x := s.o.Tell(); x.Calls != 1 || x.Length != 9 || x.Trim != 8 || x.Asked != 0 {
		t.Errorf("%+v", x)
	}
}

// P21.4: marks of what is forgotten are none: what was said of it is what the plan has seen.
func TestForgotten(t *testing.T) {
	for _, code := range []api.Errno{api.OK, api.ErrState} {
		s := full(t)
		x := s.calls(api.Call{Client: 1, Kind: api.CallTrim, At: 8})
		forget := s.decide(x.Ops[0]).Ops[0]
		if code == api.OK {
			is(t, s.decide(forget), api.Out{})
		} else {
			asked(t, s.told(forget, api.Outcome{Code: code}), forget)
			continue
		}
		if l := s.plan.Channels[0]; len(l.Ledgers) != 0 || l.First != 8 || len(l.Seen) != 2 {
			t.Fatalf("%+v", l)
		}
		replied(t, s.calls(publish(9, 20, 7)), api.Reply{Client: 9, N: 20, At: 6})
		replied(t, s.calls(publish(9, 21, 6)), api.Reply{Client: 9, N: 21, Result: api.BadRequest})
		x = s.calls(publish(9, 22, 8))
		x = s.decide(x.Ops[0])
		replied(t, s.oks(x.Reqs), api.Reply{Client: 9, N: 22, At: 8})
		if l, ok := plan.Open(s.plan, 1); !ok || l.Id != 2 {
			t.Errorf("%+v", l)
		}
	}
}

// P21.9: while another one has the channel by the plan, nothing is answered as done that stands where the other one's entries do, whosever operation it was by which the plan came.
func TestTakenOver(t *testing.T) {
	s := writing(t, 1)
	ack := s.calls(api.Call{Client: 7, Kind: api.CallAck, Sub: 1, At: 1}).Ops[0]
	x := s.calls(publish(9, 9, 2))
	s.calls(publish(8, 1, 1))
	s.calls(publish(6, 1, 1))
	row := []api.Frag{frag(1, firsts(7, 8, 9)...)}
	other := []api.Op{{Kind: api.OpGrab, Now: 99}, {Kind: api.OpClose, Epoch: 2, Ledger: 1, At: 2, Frags: row}, {Kind: api.OpLedger, Epoch: 2, W: 2, A: 2, Frags: row}}
	p := s.plan
	for i, o := range other {
		o.Who, o.Inc, o.N, o.Channel = 4, 1, uint64(i+1), 1
		p, _ = ops.Apply(p, o)
	}
	// By the node 4 the client's call was done already: its outcome is remembered.
	ack.Epoch = 2
	p, came := ops.Apply(p, ack)
	if came.Code != api.OK {
		t.Fatalf("%+v", came)
	}
	ack.Epoch = 1
	p, came = ops.Apply(p, ack)
	if came.Code != api.OK {
		t.Fatalf("%+v", came)
	}
	look := func(x api.Out) {
		t.Helper()
		for _, r := range x.Replies {
			if r.Result == api.Done && r.Client != 7 && (r.Client != 9 || r.At != 1) {
				t.Errorf("%+v is told, by %+v", r, p.Channels[0])
			}
		}
	}
	look(s.o.Decided(5, api.Decided{Op: ack, Outcome: came, Plan: p}))
	look(s.o.Call(5, publish(3, 1, 1)))
	p.Version++
	p.Ledgers[1].Closed, p.Ledgers[1].Last = 1, 8
	look(s.o.Decided(5, api.Decided{Op: ack, Outcome: came, Plan: p}))
	for _, q := range x.Reqs {
		look(s.o.Take(5, resp(q, api.RespFenced)))
	}
}
