package owner_test

import (
	"math"
	"slices"
	"testing"

	"scrivener/api"
	"scrivener/entry"
	"scrivener/ops"
	"scrivener/owner"
	"scrivener/plan"
)

// scene is an owner, beside its model, with the plan that does what it asks for, at a tick.
type scene struct {
	*pair
	plan api.Plan
	n    uint64 // how many operations its broker, or another one, has begun
	now  uint64
}

// setup is the chapter's.
func setup() api.Setup { return api.Setup{Node: 5, Inc: 1, W: 2, A: 2, E: 3} }

// newScene tells an owner of the first channel, that has it not, by the first plan, at the tick 5.
func newScene(t *testing.T) *scene {
	t.Helper()
	p, _ := plan.Start(1)
	return &scene{pair: newPair(t, setup(), 1, p), plan: p, now: 5}
}

// own tells an operation of the owner's own.
func own(kind int, o api.Op) api.Op {
	o.Who, o.Inc, o.Kind, o.Channel = 5, 1, kind, 1
	return o
}

// decide has the plan do an operation, and tells the owner.
func (s *scene) decide(o api.Op) api.Out {
	s.t.Helper()
	if o.N == 0 {
		s.n++
		o.N = s.n
	}
	var came api.Outcome
	s.plan, came = ops.Apply(s.plan, o)
	return s.told(o, came)
}

// told tells the owner what came of an operation, and the plan as it is.
func (s *scene) told(o api.Op, x api.Outcome) api.Out {
	s.t.Helper()
	return s.decided(s.now, api.Decided{Op: o, Outcome: x, Plan: s.plan})
}

// asks has a client call, by its number, and what is asked for is told.
func (s *scene) calls(c api.Call) api.Out {
	s.t.Helper()
	c.Channel = 1
	c.Inc, c.N = max(c.Inc, 1), max(c.N, 1)
	return s.call(s.now, c)
}

// publish is a publish of a client, of that Seq.
func publish(client int, n, seq uint64) api.Call {
	return api.Call{Client: client, Inc: 1, N: n, Kind: api.CallPublish, Channel: 1, Seq: seq, Body: body(client, seq)}
}

// read is a read of a client.
func read(client int, n, at uint64) api.Call {
	return api.Call{Client: client, Inc: 1, N: n, Kind: api.CallRead, Channel: 1, At: at}
}

// body is what a client publishes by a Seq.
func body(client int, seq uint64) []byte { return []byte{'a' + byte(client), byte(seq)} }

// stored tells an entry's bytes.
func stored(client int, seq uint64) []byte {
	b, _ := entry.Encode(api.Entry{Producer: client, Seq: seq, Body: body(client, seq)})
	return b
}

// resp tells a bookie's answer to what was asked of it.
func resp(q api.Req, code int) api.Resp {
	return api.Resp{From: q.To, Kind: q.Kind, Code: code, Ledger: q.Ledger, N: q.N, Epoch: q.Epoch}
}

// has tells a bookie's answer to a get, with an entry.
func has(q api.Req, b []byte) api.Resp {
	r := resp(q, api.RespOk)
	r.Body = b
	return r
}

// oks has all answer that they did what was asked.
func (s *scene) oks(l []api.Req) api.Out {
	s.t.Helper()
	var all api.Out
	for _, q := range l {
		all = both(all, s.take(s.now, resp(q, api.RespOk)))
	}
	return all
}

// both tells what two calls answered, the first one's first.
func both(a, b api.Out) api.Out {
	return api.Out{Reqs: slices.Concat(a.Reqs, b.Reqs), Ops: slices.Concat(a.Ops, b.Ops), Replies: slices.Concat(a.Replies, b.Replies)}
}

// is looks at what a call answered.
func is(t *testing.T, got api.Out, want api.Out) {
	t.Helper()
	if !alike(got, want) {
		t.Fatalf("%+v, not %+v", got, want)
	}
}

// asked looks whether just those operations are asked for.
func asked(t *testing.T, got api.Out, want ...api.Op) {
	t.Helper()
	is(t, got, api.Out{Ops: want})
}

// replied looks whether there are just those replies; each is to a client's first call of its first life, if it does not say so.
func replied(t *testing.T, got api.Out, want ...api.Reply) {
	t.Helper()
	for i := range want {
		want[i].Inc, want[i].N = max(want[i].Inc, 1), max(want[i].N, 1)
	}
	is(t, got, api.Out{Replies: want})
}

// add tells what is asked of a bookie, that is to have an entry of the ledger 1.
func add(to api.Place, n, sure uint64, b []byte) api.Req {
	return api.Req{To: to, Kind: api.ReqAdd, Ledger: 1, N: n, Epoch: 1, Sure: sure, Body: b}
}

// phase looks in which phase the owner is.
func (s *scene) phase(want int) {
	s.t.Helper()
	if got := s.o.Tell().Phase; got != want {
		s.t.Fatalf("it is in the phase %d, not %d", got, want)
	}
}

// serving tells an owner that serves an empty channel, which nobody calls, and that knows places.
func serving(t *testing.T, known ...api.Place) *scene {
	t.Helper()
	s := newScene(t)
	s.calls(api.Call{Client: 15, Kind: api.CallCursor, Sub: 1})
	x := s.decide(own(api.OpGrab, api.Op{Now: 5}))
	s.decide(x.Ops[0])
	is(t, s.tick(s.now, known...), api.Out{})
	s.phase(api.OwnServes)
	return s
}

// writing tells an owner that writes the ledger 1, on the nodes 7, 8 and 9, in which so many entries of the client 9 are sure; nobody calls it.
func writing(t *testing.T, entries uint64) *scene {
	t.Helper()
	s := serving(t, firsts(7, 8, 9)...)
	x := s.calls(publish(9, 1, 1))
	s.calls(api.Call{Client: 9, N: 2, Kind: api.CallCursor, Sub: 1}) // in the place of that one
	s.decide(x.Ops[0])
	s.decide(api.Op{Who: 9, Inc: 1, N: 2, Kind: api.OpCursor, Channel: 1, Epoch: 1, Sub: 1})
	for seq := uint64(1); seq <= entries; seq++ {
		x = s.oks(s.calls(publish(9, seq+2, seq)).Reqs)
		replied(t, x, api.Reply{Client: 9, N: seq + 2, At: seq - 1})
	}
	if x := s.o.Tell(); x.Ledger != 1 || x.Sure != entries || x.Calls != 0 || x.Asked != 0 {
		t.Fatalf("%+v", x)
	}
	return s
}

// P21.1: what may be, and its edges; and what it tells then.
func TestNew(t *testing.T) {
	good, _ := plan.Start(3)
	bad := twin(good)
	bad.Next = 0
	for _, c := range []struct {
		s       api.Setup
		channel int
		p       api.Plan
		want    api.Errno
	}{
		{api.Setup{Node: 1, Inc: 1, W: 1, A: 1, E: 1}, 1, good, api.OK}, {api.Setup{Node: 15, Inc: top, W: 5, A: 5, E: 5}, 3, good, api.OK}, {api.Setup{Node: 2, Inc: 2, W: 3, A: 1, E: 5}, 2, good, api.OK},
		{api.Setup{Node: 0, Inc: 1, W: 1, A: 1, E: 1}, 1, good, api.ErrArg}, {api.Setup{Node: 16, Inc: 1, W: 1, A: 1, E: 1}, 1, good, api.ErrArg}, {api.Setup{Node: -1, Inc: 1, W: 1, A: 1, E: 1}, 1, good, api.ErrArg},
		{api.Setup{Node: 1, Inc: 0, W: 1, A: 1, E: 1}, 1, good, api.ErrArg}, {api.Setup{Node: 1, Inc: top + 1, W: 1, A: 1, E: 1}, 1, good, api.ErrArg}, {api.Setup{Node: 1, Inc: math.MaxUint64, W: 1, A: 1, E: 1}, 1, good, api.ErrArg},
		{api.Setup{Node: 1, Inc: 1, W: 1, A: 0, E: 1}, 1, good, api.ErrArg}, {api.Setup{Node: 1, Inc: 1, W: 2, A: 3, E: 3}, 1, good, api.ErrArg}, {api.Setup{Node: 1, Inc: 1, W: 3, A: 2, E: 2}, 1, good, api.ErrArg}, {api.Setup{Node: 1, Inc: 1, W: 2, A: 2, E: 6}, 1, good, api.ErrArg}, {api.Setup{Node: 1, Inc: 1, W: -2, A: -3, E: -1}, 1, good, api.ErrArg},
		{setup(), 0, good, api.ErrArg}, {setup(), 4, good, api.ErrArg}, {setup(), -1, good, api.ErrArg}, {setup(), 1, bad, api.ErrArg}, {setup(), 1, api.Plan{}, api.ErrArg},
	} {
		o, e := owner.New(c.s, c.channel, c.p)
		if e != c.want || (o == nil) != (e != api.OK) {
			t.Errorf("%+v, %d: %d", c.s, c.channel, e)
		}
		if o == nil {
			continue
		}
		if x := o.Tell(); x != (api.Owning{Channel: c.channel}) || !alike(o.Plan(), c.p) {
			t.Errorf("%+v", x)
		}
	}
}

// P21.1: a channel that the plan has not may have an owner, too; it never gets the channel.
func TestNewOfNoChannel(t *testing.T) {
	p, _ := plan.Start(2)
	s := &scene{pair: newPair(t, setup(), 3, p), plan: p, now: 5}
	c := publish(9, 1, 1)
	c.Channel = 3
	x := s.call(5, c)
	o := api.Op{Who: 5, Inc: 1, Kind: api.OpGrab, Channel: 3, Now: 5}
	asked(t, x, o)
	replied(t, s.decide(o), api.Reply{Client: 9, Result: api.NotOwner})
	s.phase(api.OwnIdle)
}

// The chapter's example.
func TestExample(t *testing.T) {
	s := newScene(t)
	c := api.Call{Client: 9, Inc: 1, N: 1, Kind: api.CallPublish, Channel: 1, Seq: 1, Body: []byte("x")}
	grab := own(api.OpGrab, api.Op{Now: 5})
	asked(t, s.calls(c), grab)
	is(t, s.decide(grab), api.Out{})
	ledger := own(api.OpLedger, api.Op{Epoch: 1, W: 2, A: 2, Frags: []api.Frag{frag(1, firsts(7, 8, 9)...)}})
	asked(t, s.tick(5, firsts(7, 8, 9)...), ledger)
	b := []byte{9, 1, 1, 'x'}
	adds := []api.Req{add(at(7, 1), 1, 0, b), add(at(8, 1), 1, 0, b)}
	is(t, s.decide(ledger), api.Out{Reqs: adds})
	is(t, s.take(6, resp(adds[0], api.RespOk)), api.Out{})
	replied(t, s.take(6, resp(adds[1], api.RespOk)), api.Reply{Client: 9})
	if x := s.o.Tell(); x != (api.Owning{Channel: 1, Phase: api.OwnServes, Epoch: 1, Length: 1, Ledger: 1, Sure: 1}) {
		t.Errorf("%+v", x)
	}
}
