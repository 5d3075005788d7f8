package broker_test

import (
	"math"
	"slices"
	"testing"

	"scrivener/api"
	"scrivener/broker"
	"scrivener/ops"
	"scrivener/plan"
)

// rule is an acceptor: it promises, and accepts, what is not ahead of what it has promised.
type rule struct {
	node               int
	promised, accepted api.Ballot
	value              []byte
}

// below tells whether a ballot goes ahead of another one.
func below(a, b api.Ballot) bool {
	if a.Round != b.Round {
		return a.Round < b.Round
	}
	if a.Node != b.Node {
		return a.Node < b.Node
	}
	return a.Inc < b.Inc
}

// asked has an acceptor answer.
func (r *rule) asked(x api.Ask) api.Says {
	s := api.Says{From: r.node, Kind: api.SaysRefused, Ballot: x.Ballot}
	if below(x.Ballot, r.promised) {
		s.Promised = r.promised
		return s
	}
	r.promised = x.Ballot
	if x.Kind == api.AskPrepare {
		s.Kind, s.Accepted, s.Value = api.SaysPromise, r.accepted, slices.Clone(r.value)
		return s
	}
	s.Kind, r.accepted, r.value = api.SaysAccepted, x.Ballot, slices.Clone(x.Value)
	return s
}

// decides has an acceptor know that somebody else has decided a plan, by a ballot ahead of what the broker asks for next.
func (r *rule) decides(p api.Plan) {
	r.accepted = api.Ballot{Round: max(1, r.promised.Round), Node: 2, Inc: 1}
	r.value, _ = plan.Encode(p)
}

// plan tells the plan that was accepted last.
func (r *rule) plan() api.Plan {
	p, _ := plan.Decode(r.value)
	return p
}

// scene is a broker, beside its model, with one meta, at a tick.
type scene struct {
	*pair
	meta rule
	now  uint64
}

// crew is the chapter's, with so many channels.
func crew(channels int) api.Crew {
	return api.Crew{Setup: api.Setup{Node: 4, Inc: 1, W: 2, A: 2, E: 2}, Metas: 1, Bookies: []int{2, 3}, Channels: channels}
}

// newScene tells a broker of the chapter's crew, to which nothing was done, at the tick 5.
func newScene(t *testing.T, channels int) *scene {
	t.Helper()
	return &scene{pair: newPair(t, crew(channels), 5), meta: rule{node: 1}, now: 5}
}

// both tells what two calls sent, the first one's first.
func both(a, b api.Sends) api.Sends {
	return api.Sends{Asks: slices.Concat(a.Asks, b.Asks), Reqs: slices.Concat(a.Reqs, b.Reqs), Replies: slices.Concat(a.Replies, b.Replies)}
}

// settle has the meta answer whatever it is asked, till nothing is asked any more; it tells what is sent to others.
func (s *scene) settle(x api.Sends) api.Sends {
	s.t.Helper()
	for len(x.Asks) > 0 {
		said := s.meta.asked(x.Asks[0])
		x.Asks = x.Asks[1:]
		x = both(x, s.says(s.now, said))
	}
	return x
}

// calls has a client call at the scene's tick, its first call of its first life, if that is not said.
func (s *scene) calls(c api.Call) api.Sends {
	s.t.Helper()
	c.Channel = max(c.Channel, 1)
	c.Inc, c.N = max(c.Inc, 1), max(c.N, 1)
	return s.call(s.now, c)
}

// publish is a publish of a client on the channel 1.
func publish(client int, n, seq uint64) api.Call {
	return api.Call{Client: client, Inc: 1, N: n, Kind: api.CallPublish, Channel: 1, Seq: seq, Body: []byte{'a' + byte(client), byte(seq)}}
}

// ack is an acknowledgement of a client on the channel 1.
func ack(client int, n, offset uint64) api.Call {
	return api.Call{Client: client, Inc: 1, N: n, Kind: api.CallAck, Channel: 1, Sub: 1, At: offset}
}

// hello is what a bookie's node says of itself.
func hello(place api.Place, code int) api.Resp {
	return api.Resp{From: place, Kind: api.ReqHello, Code: code}
}

// resp tells a bookie's answer to what was asked of it.
func resp(q api.Req, code int) api.Resp {
	return api.Resp{From: q.To, Kind: q.Kind, Code: code, Ledger: q.Ledger, N: q.N, Epoch: q.Epoch}
}

// has tells a bookie's answer to a get, with an entry.
func has(q api.Req, b []byte) api.Resp {
	r := resp(q, api.RespOk)
	r.Body = b
	return r
}

// greeted has bookies tell of themselves, all of which can be written.
func (s *scene) greeted(l ...api.Place) {
	s.t.Helper()
	for _, p := range l {
		is(s.t, s.take(s.now, hello(p, api.RespOk)), api.Sends{})
	}
}

// ticks has so many ticks go by; what is asked of metas is answered.
func (s *scene) ticks(by uint64) api.Sends {
	s.t.Helper()
	s.now += by
	return s.settle(s.tick(s.now))
}

// oks has all that is asked of bookies be done, and tells what is sent then.
func (s *scene) oks(l []api.Req) api.Sends {
	s.t.Helper()
	var all api.Sends
	for _, q := range l {
		all = both(all, s.settle(s.take(s.now, resp(q, api.RespOk))))
	}
	return all
}

// kind tells the requests of a kind.
func kind(l []api.Req, kind int) []api.Req {
	var of []api.Req
	for _, q := range l {
		if q.Kind == kind {
			of = append(of, q)
		}
	}
	return of
}

// is looks at what a call sent.
func is(t *testing.T, got, want api.Sends) {
	t.Helper()
	if !alike(got, want) {
		t.Fatalf("%+v, not %+v", got, want)
	}
}

// hellos tells what is asked of bookies again and again.
func hellos(l ...api.Place) []api.Req {
	var reqs []api.Req
	for _, p := range l {
		reqs = append(reqs, api.Req{To: p, Kind: api.ReqHello})
	}
	return reqs
}

// prepares tells what the meta is asked for a ballot of the broker's.
func prepares(round uint64) []api.Ask {
	return []api.Ask{{To: 1, Kind: api.AskPrepare, Ballot: api.Ballot{Round: round, Node: 4, Inc: 1}}}
}

// serving tells a broker whose channel 1 is its own, that has not been ticked yet.
func serving(t *testing.T, channels int) *scene {
	t.Helper()
	s := newScene(t, channels)
	x := s.settle(s.calls(ack(9, 1, 0)))
	is(t, x, api.Sends{Replies: []api.Reply{{Client: 9, Inc: 1, N: 1}}})
	if x := s.b.Tell(); x.Owns[0].Phase != api.OwnServes || x.Asked != 0 || x.N != 1 {
		t.Fatalf("%+v", x)
	}
	return s
}

// P22.1: what may be, and its edges; and what it tells then.
func TestNew(t *testing.T) {
	good := crew(2)
	change := func(does func(*api.Crew)) api.Crew {
		c := twin(good)
		does(&c)
		return c
	}
	setup := func(node int, inc uint64, w, a, e int) api.Crew {
		return change(func(c *api.Crew) { c.Setup = api.Setup{Node: node, Inc: inc, W: w, A: a, E: e} })
	}
	metas := func(metas, node int, bookies ...int) api.Crew {
		return change(func(c *api.Crew) { c.Metas, c.Setup.Node, c.Bookies = metas, node, bookies })
	}
	channels := func(n int) api.Crew { return change(func(c *api.Crew) { c.Channels = n }) }
	for _, x := range []struct {
		c  api.Crew
		ok bool
	}{
		{good, true}, {channels(1), true}, {channels(3), true}, {channels(0), false}, {channels(4), false}, {channels(-1), false},
		{setup(2, 1, 1, 1, 1), true}, {setup(15, top, 5, 5, 5), true}, {setup(3, 7, 3, 1, 5), true},
		{setup(1, 1, 1, 1, 1), false}, {setup(0, 1, 1, 1, 1), false}, {setup(-1, 1, 1, 1, 1), false}, {setup(16, 1, 1, 1, 1), false},
		{setup(4, 0, 1, 1, 1), false}, {setup(4, top+1, 1, 1, 1), false}, {setup(4, math.MaxUint64, 1, 1, 1), false},
		{setup(4, 1, 1, 0, 1), false}, {setup(4, 1, 1, 2, 2), false}, {setup(4, 1, 3, 2, 2), false}, {setup(4, 1, 5, 5, 6), false}, {setup(4, 1, 0, 0, 0), false},
		{metas(3, 4, 5, 6), true}, {metas(3, 15, 4, 15), true}, {metas(1, 2, 2), true}, {metas(1, 4, 2, 3, 4, 5, 6), true}, {metas(1, 4, 15, 3, 9), true},
		{metas(0, 4, 2), false}, {metas(2, 4, 3), false}, {metas(4, 5, 6), false}, {metas(-1, 4, 2), false}, {metas(3, 3, 4), false}, {metas(5, 6, 7), false},
		{metas(1, 4), false}, {metas(1, 4, 2, 3, 4, 5, 6, 7), false}, {metas(1, 4, 2, 2), false}, {metas(1, 4, 2, 3, 2), false},
		{metas(1, 4, 1), false}, {metas(1, 4, 2, 1), false}, {metas(3, 4, 3), false}, {metas(1, 4, 16), false}, {metas(1, 4, 2, 16), false}, {metas(1, 4, 0), false}, {metas(1, 4, -2), false},
		{api.Crew{}, false},
	} {
		for _, now := range []uint64{0, 5, math.MaxUint64} {
			b, e := broker.New(x.c, now)
			if (e == api.OK) != x.ok || !x.ok && e != api.ErrArg || (b == nil) == x.ok || (newModel(x.c) != nil) != x.ok {
				t.Errorf("%+v: %d", x.c, e)
			}
			if b == nil {
				continue
			}
			want := api.Broking{}
			for i := range x.c.Channels {
				want.Owns = append(want.Owns, api.Owning{Channel: i + 1})
			}
			first, _ := plan.Start(x.c.Channels)
			if !alike(b.Tell(), want) || !alike(b.Plan(), first) {
				t.Errorf("%+v: %+v, %+v", x.c, b.Tell(), b.Plan())
			}
		}
	}
}

// The chapter's examples; nothing is sent ahead of its first Tick.
func TestExample(t *testing.T) {
	s := newScene(t, 1)
	is(t, s.call(1, api.Call{Client: 5, Inc: 1, N: 1, Kind: api.CallPublish, Channel: 1, Seq: 1, Body: []byte("a")}), api.Sends{Asks: prepares(1)})
	s = newScene(t, 1)
	is(t, s.call(1, api.Call{Client: 5, Inc: 1, N: 1, Kind: api.CallPublish, Channel: 2, Seq: 1}), api.Sends{Replies: []api.Reply{{Client: 5, Inc: 1, N: 1, Result: api.BadRequest}}})
	s = newScene(t, 1)
	is(t, s.tick(5), api.Sends{Asks: prepares(1), Reqs: hellos(at(2, 0), at(3, 0))})
	// Behind a call it asks for the channel: it does not look at the plan beside that.
	s = newScene(t, 1)
	s.call(4, publish(5, 1, 1))
	is(t, s.tick(5), api.Sends{Reqs: hellos(at(2, 0), at(3, 0))})
}

// P22.2: a call goes to its channel's owner; of a channel that there is not it is refused.
func TestCall(t *testing.T) {
	for _, channel := range []int{0, 3, 4, -1, math.MaxInt, math.MinInt} {
		for _, size := range []int{0, 64, 65, 1 << 12} {
			s := newScene(t, 2)
			want := api.Reply{Client: 77, Inc: 8, N: 9, Result: api.BadRequest}
			if size > 64 {
				want.Result = api.TooLarge
			}
			is(t, s.call(5, api.Call{Client: 77, Inc: 8, N: 9, Kind: api.CallPublish, Channel: channel, Sub: 1, Seq: 3, At: 4, Body: make([]byte, size)}), api.Sends{Replies: []api.Reply{want}})
		}
	}
	s := newScene(t, 3)
	c := publish(9, 1, 1)
	c.Channel = 2
	is(t, s.call(5, c), api.Sends{Asks: prepares(1)})
	tells := s.b.Tell()
	if tells.Asked != 1 || tells.N != 1 || tells.Owns[0].Calls != 0 || tells.Owns[1].Calls != 1 || tells.Owns[1].Asked != api.OpGrab || tells.Owns[2].Calls != 0 {
		t.Errorf("%+v", tells)
	}
	// What its owner refuses is refused, too.
	c.Sub = 1
	is(t, s.call(5, c), api.Sends{Replies: []api.Reply{{Client: 9, Inc: 1, N: 1, Result: api.BadRequest}}})
	c.Body = make([]byte, 65)
	is(t, s.call(5, c), api.Sends{Replies: []api.Reply{{Client: 9, Inc: 1, N: 1, Result: api.TooLarge}}})
}

// P22.3: what was decided waits no more, is the newest plan, and is told to each owner, by its number; what waits behind it is started.
func TestSays(t *testing.T) {
	s := newScene(t, 3)
	for channel := 1; channel <= 3; channel++ {
		c := ack(9, uint64(channel), 7)
		c.Channel = channel
		s.call(5, c)
	}
	if x := s.b.Tell(); x.Asked != 3 || x.N != 1 || x.Version != 0 {
		t.Fatalf("%+v", x)
	}
	x := s.says(5, s.meta.asked(prepares(1)[0]))
	if len(x.Asks) != 1 || x.Asks[0].Kind != api.AskAccept || len(x.Reqs)+len(x.Replies) > 0 {
		t.Fatalf("%+v", x)
	}
	is(t, s.says(5, s.meta.asked(x.Asks[0])), api.Sends{Asks: prepares(2)})
	tells := s.b.Tell()
	if tells.Version != 1 || tells.Asked != 3 || tells.N != 2 || !plan.Same(s.b.Plan(), s.meta.plan()) {
		t.Errorf("%+v", tells)
	}
	if tells.Owns[0].Phase != api.OwnServes || tells.Owns[1].Phase != api.OwnGrabs || tells.Owns[2].Phase != api.OwnGrabs {
		t.Errorf("%+v", tells)
	}
	is(t, s.settle(api.Sends{Asks: prepares(2)}), api.Sends{Replies: []api.Reply{{Client: 9, Inc: 1, N: 1, At: 7}, {Client: 9, Inc: 1, N: 2, At: 7}, {Client: 9, Inc: 1, N: 3, At: 7}}})
	if x := s.b.Tell(); x.Asked != 0 || x.N != 3 || x.Version != 6 {
		t.Errorf("%+v", x)
	}
}

// P22.3: all owners are told, in their order, also those who have not asked: here that they have lost.
func TestSaysToAll(t *testing.T) {
	s := newScene(t, 3)
	for channel := 1; channel <= 3; channel++ {
		c := ack(8, uint64(channel), 0)
		c.Channel = channel
		s.settle(s.call(5, c))
		c = publish(9, uint64(channel), 1)
		c.Channel = channel
		is(t, s.call(5, c), api.Sends{})
	}
	p := s.meta.plan()
	for channel := 1; channel <= 3; channel++ {
		p, _ = ops.Apply(p, api.Op{Who: 6, Inc: 1, N: uint64(channel), Kind: api.OpGrab, Channel: channel, Now: 50})
	}
	s.meta.decides(p)
	s.tick(s.now) // it looks at the plan
	s.now += 9
	x := s.ticks(0)
	s.now += 9
	x = both(x, s.ticks(0))
	want := []api.Reply{{Client: 9, Inc: 1, N: 1, Result: api.NotOwner, Owner: 6}, {Client: 9, Inc: 1, N: 2, Result: api.NotOwner, Owner: 6}, {Client: 9, Inc: 1, N: 3, Result: api.NotOwner, Owner: 6}}
	is(t, api.Sends{Replies: x.Replies}, api.Sends{Replies: want})
	if !plan.Same(s.b.Plan(), s.meta.plan()) {
		t.Errorf("%+v", s.b.Plan())
	}
}

// P22.3: a plan that is not above is not the newest; another's says, and what is no answer, do nothing.
func TestSaysStale(t *testing.T) {
	s := serving(t, 1)
	was := s.b.Plan()
	// The channel was grabbed since: what is asked for comes to nothing, by the same plan.
	p, _ := ops.Apply(s.meta.plan(), api.Op{Who: 6, Inc: 1, N: 1, Kind: api.OpGrab, Channel: 1, Now: 50})
	s.calls(ack(9, 2, 1))
	for _, x := range []api.Says{{}, {From: 2, Kind: api.SaysPromise, Ballot: api.Ballot{Round: 3, Node: 4, Inc: 1}}, {From: 1, Kind: api.SaysPromise, Ballot: api.Ballot{Round: 9, Node: 4, Inc: 1}}} {
		is(t, s.says(5, x), api.Sends{})
	}
	if !plan.Same(s.b.Plan(), was) {
		t.Errorf("%+v", s.b.Plan())
	}
	value, _ := plan.Encode(p)
	ballot := api.Ballot{Round: 3, Node: 4, Inc: 1}
	x := s.says(5, api.Says{From: 1, Kind: api.SaysPromise, Ballot: ballot, Accepted: api.Ballot{Round: 2, Node: 6, Inc: 1}, Value: value})
	is(t, s.says(5, api.Says{From: 1, Kind: api.SaysAccepted, Ballot: ballot}), api.Sends{Replies: []api.Reply{{Client: 9, Inc: 1, N: 2, Result: api.NotOwner, Owner: 6}}})
	if len(x.Asks) != 1 || !plan.Same(s.b.Plan(), p) || s.b.Tell().Version != p.Version || s.b.Tell().Asked != 0 {
		t.Errorf("%+v, %+v", x, s.b.Tell())
	}
	// What is decided by an older plan, or another one of that Version, as metas tell that should not, leaves the newest one.
	other := plan.Copy(p)
	other.Channels[0].Renewed++
	value, _ = plan.Encode(other)
	for _, lie := range []api.Says{{}, {Accepted: api.Ballot{Round: 2, Node: 6, Inc: 1}, Value: value}} {
		ballot.Round++
		x = s.tick(s.now)
		if len(x.Asks) != 1 || x.Asks[0].Ballot != ballot {
			t.Fatalf("%+v", x)
		}
		lie.From, lie.Kind, lie.Ballot = 1, api.SaysPromise, ballot
		s.says(s.now, lie)
		s.says(s.now, api.Says{From: 1, Kind: api.SaysAccepted, Ballot: ballot})
		if x := s.b.Tell(); !plan.Same(s.b.Plan(), p) || x.Version != p.Version || x.Asked != 0 {
			t.Errorf("%+v", x)
		}
		s.now += 12
	}
}
