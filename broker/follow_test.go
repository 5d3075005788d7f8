package broker_test

import (
	"bytes"
	"math/rand/v2"
	"slices"
	"testing"

	"scrivener/api"
	"scrivener/broker"
	"scrivener/ops"
	"scrivener/plan"
)

// bare tells a plan but for its Version, and what it remembers.
func bare(p api.Plan) api.Plan {
	p.Version, p.Past = 0, nil
	return p
}

// goesOn tells an operation by which another broker goes on with the channel 1: it makes ledgers there, on one node, and closes them.
func goesOn(d *rand.Rand, p api.Plan, node int, now uint64) api.Op {
	row := p.Channels[0]
	o := api.Op{Who: 14, Inc: 1, N: now + 1, Channel: 1}
	l, ok := plan.Open(p, 1)
	switch {
	case row.Epoch == 0 || d.IntN(9) == 0:
		o.Kind, o.Now = api.OpGrab, now
		return o
	case ok:
		o.Kind, o.Ledger, o.At, o.Frags = api.OpClose, l.Id, d.Uint64N(9), l.Frags
	case len(row.Ledgers) > 6:
		o.Kind, o.At = api.OpTrim, plan.End(p, 1)
	default:
		o.Kind, o.W, o.A, o.Frags = api.OpLedger, 1, 1, []api.Frag{{First: 1, Bookies: []api.Place{at(node, 1)}}}
	}
	o.Epoch = row.Epoch
	return o
}

// P22.10: a broker that nobody calls says hello, frees, looks at the plan, and nothing else, whatever others do, and bookies say.
func TestQuiet(t *testing.T) {
	d := rand.New(rand.NewPCG(22, 5))
	for range 20 {
		c := drawCrew(d)
		s := &scene{pair: newPair(t, c, 0), meta: rule{node: 1}}
		p, _ := plan.Start(c.Channels)
		for s.now = range uint64(100) {
			if d.IntN(6) == 0 {
				p, _ = ops.Apply(p, goesOn(d, p, c.Bookies[0], s.now))
				s.meta.decides(p)
			}
			x := s.tick(s.now)
			for len(x.Asks) > 0 {
				s.quiet(x)
				says := s.meta.asked(x.Asks[0])
				says.From = x.Asks[0].To // all metas know the same
				x = both(api.Sends{Asks: x.Asks[1:]}, s.says(s.now, says))
			}
			s.quiet(x)
			if len(s.meta.value) > 0 {
				was := bare(p)
				if p = s.meta.plan(); !plan.Same(bare(p), was) {
					t.Fatalf("%+v, not %+v", p, was)
				}
			}
			for _, node := range c.Bookies {
				s.quiet(s.take(s.now, hello(at(node, 1), d.IntN(2)*api.RespFull)))
				s.quiet(s.take(s.now, api.Resp{From: at(node, 1), Kind: 1 + d.IntN(4), Ledger: 1, N: d.Uint64N(3), Epoch: d.Uint64N(3)}))
			}
		}
		if x := s.b.Tell(); x.N != 9 || x.Copies != 0 {
			t.Errorf("%+v", x)
		}
	}
}

// P22.8: operations are decided in the order in which they wait: clients' as they called, one of whose channels' all there is; its own in between have numbers that rise by one.
func TestInOrder(t *testing.T) {
	d := rand.New(rand.NewPCG(22, 6))
	for range 30 {
		s := newScene(t, 3)
		for channel := 1; channel <= 3; channel++ {
			c := ack(9, uint64(channel), 0)
			c.Channel = channel
			s.settle(s.call(s.now, c))
		}
		var called, done []uint64
		own, n := uint64(3), uint64(100)
		was := s.meta.plan()
		var x api.Sends
		for range 400 {
			switch d.IntN(6) {
			case 0:
				s.now += d.Uint64N(3)
				x = both(x, s.tick(s.now))
			case 1:
				if len(called)-len(done) < 40 {
					n++
					called = append(called, n)
					c := ack(5+d.IntN(11), n, n)
					c.Channel = 1 + d.IntN(3)
					x = both(x, s.call(s.now, c))
				}
			}
			if len(x.Asks) == 0 {
				continue
			}
			x = both(api.Sends{Asks: x.Asks[1:]}, s.says(s.now, s.meta.asked(x.Asks[0])))
			p := s.meta.plan()
			for _, y := range p.Past {
				if slices.Contains(was.Past, y) {
					continue
				}
				if y.Who != 4 {
					done = append(done, y.N)
				} else if own++; y.Inc != 1 || y.N < own || y.N > s.b.Tell().N {
					t.Fatalf("%+v, behind %d", y, own)
				} else {
					own = y.N
				}
			}
			was = p
		}
		if !slices.Equal(done, called[:len(done)]) || len(done) < 20 {
			t.Fatalf("%v, not %v", done, called)
		}
	}
}

// quiet looks whether nothing is sent to bookies but hellos, and what may go by the plan, and nothing to clients.
func (s *scene) quiet(x api.Sends) {
	s.t.Helper()
	p := s.b.Plan()
	for _, q := range x.Reqs {
		isFree := q.Kind == api.ReqFree && q.N == p.Next && len(q.Keep) == len(p.Ledgers) && p.Version > 0
		if q.Kind != api.ReqHello && !isFree {
			s.t.Fatalf("%+v", q)
		}
	}
	if len(x.Replies) > 0 {
		s.t.Fatalf("%+v", x)
	}
}

// onItsWay is something on its way to a node: one of them.
type onItsWay struct {
	to    int
	ask   *api.Ask
	says  *api.Says
	req   *api.Req
	resp  *api.Resp
	call  *api.Call
	reply *api.Reply
	from  int
}

// message is who has published something on a channel, and by which Seq.
type message struct {
	channel, client int
	seq             uint64
}

// offset is an offset of a channel.
type offset struct {
	channel int
	at      uint64
}

// desk is a broker in one of its lives, its clock, and which calls it was called with.
type desk struct {
	crew   api.Crew
	b      *broker.Broker
	now    uint64
	called map[[3]uint64]bool
}

// customer is a client: the call that it began last, and whether that goes on.
type customer struct {
	api.Call
	busy bool
	ends uint64 // behind all that was told as done, as it began
}

// town is brokers, metas, bookies and clients.
type town struct {
	t       *testing.T
	d       *rand.Rand
	seen    events
	channel int // how many channels there are
	metas   []*rule
	desks   []*desk
	shelves []*shelf
	loses   []*shelf // those that may lose their disks: fewer than A
	clients map[int]*customer
	ways    []onItsWay
	log     map[offset]message // what somebody was told as standing there
	stands  map[message]uint64 // where
	ends    map[int]uint64     // behind all that was told as done, of each channel
	silent  int                // a node to whom nothing comes for a while
}

// newTown tells one in which nothing was done.
func newTown(t *testing.T, d *rand.Rand, seen events) *town {
	t.Helper()
	w := &town{t: t, d: d, seen: seen, channel: 1 + d.IntN(2), clients: map[int]*customer{}, log: map[offset]message{}, stands: map[message]uint64{}, ends: map[int]uint64{}}
	c := api.Crew{Metas: one(d, 1, 3, 3), Channels: w.channel, Setup: api.Setup{E: 2 + d.IntN(3)}}
	c.Setup.W = 2 + d.IntN(min(c.Setup.E, 3)-1)
	c.Setup.A = 1 + d.IntN(c.Setup.W)
	for i := range c.Metas {
		w.metas = append(w.metas, &rule{node: i + 1})
	}
	for i := range 5 {
		c.Bookies = append(c.Bookies, 4+i)
		w.shelves = append(w.shelves, newShelf(t, 4+i, 20000))
	}
	for _, i := range d.Perm(5)[:c.Setup.A-1] {
		w.loses = append(w.loses, w.shelves[i])
	}
	for i := range 1 + d.IntN(3) {
		c.Setup.Node = 9 + i
		x := &desk{crew: c, now: d.Uint64N(9)}
		w.desks = append(w.desks, x)
		w.starts(x)
	}
	for client := 12; client <= 15; client++ {
		w.clients[client] = &customer{Call: api.Call{Client: client, Inc: 1}}
	}
	return w
}

// starts has a broker begin its next life.
func (w *town) starts(x *desk) {
	x.crew.Setup.Inc++
	x.called = map[[3]uint64]bool{}
	x.b, _ = broker.New(x.crew, x.now)
}

// send puts something on its way.
func (w *town) send(m onItsWay) {
	if len(w.ways) < 150 {
		w.ways = append(w.ways, m)
	}
}

// turn goes on with what a broker sends.
func (w *town) turn(x *desk, s api.Sends) {
	w.t.Helper()
	for _, a := range s.Asks {
		w.send(onItsWay{to: a.To, from: x.crew.Setup.Node, ask: &a})
		if a.Kind == api.AskAccept && a.To == 1 {
			w.accepts(x, a.Value)
		}
	}
	for _, q := range s.Reqs {
		w.send(onItsWay{to: q.To.Node, from: x.crew.Setup.Node, req: &q})
		w.seen.count("copy", q.Copy == 1)
	}
	for _, r := range s.Replies {
		// P22.9
		if !x.called[[3]uint64{uint64(r.Client), r.Inc, r.N}] {
			w.t.Fatalf("%+v: nobody has called so", r)
		}
		w.send(onItsWay{to: r.Client, reply: &r})
	}
	tells := x.b.Tell()
	for _, o := range tells.Owns {
		w.seen.count([]string{"idle", "grabs", "recovers", "replays", "serves"}[o.Phase], true)
	}
	w.seen.count([]string{"", "seeks", "copies", "copied", "given up"}[tells.Copies], true)
}

// accepts looks at what a broker asks to be accepted: its own operations are such as it has begun in its life (P22.8).
func (w *town) accepts(x *desk, value []byte) {
	w.t.Helper()
	p, e := plan.Decode(value)
	if e != api.OK {
		w.t.Fatalf("%v: %d", value, e)
	}
	for _, y := range p.Past {
		if s := x.crew.Setup; y.Who == s.Node && (y.Inc > s.Inc || y.Inc == s.Inc && y.N > x.b.Tell().N) {
			w.t.Fatalf("%+v, though %d were begun in the life %d", y, x.b.Tell().N, s.Inc)
		}
	}
}

// desk tells the broker of a node.
func (w *town) desk(node int) *desk { return w.desks[node-9] }

// come has something come to whom it is for.
func (w *town) come(m onItsWay) {
	w.t.Helper()
	switch {
	case m.ask != nil:
		s := w.metas[m.to-1].asked(*m.ask)
		w.send(onItsWay{to: m.from, says: &s})
	case m.req != nil:
		for _, r := range w.shelves[m.to-4].asked(m.from, *m.req) {
			w.send(onItsWay{to: m.from, resp: &r})
		}
	case m.says != nil:
		x := w.desk(m.to)
		w.turn(x, x.b.Says(x.now, *m.says))
	case m.resp != nil:
		x := w.desk(m.to)
		w.turn(x, x.b.Take(x.now, *m.resp))
	case m.call != nil:
		x := w.desk(m.to)
		x.called[[3]uint64{uint64(m.call.Client), m.call.Inc, m.call.N}] = true
		w.turn(x, x.b.Call(x.now, *m.call))
	case m.reply != nil:
		w.replied(*m.reply)
	}
}

// deliver has something come, perhaps twice, or it is lost.
func (w *town) deliver() {
	w.t.Helper()
	m, ok := pick(w.d, &w.ways)
	if ok && m.to != w.silent {
		w.come(m)
	}
}

// begin has a client that is not busy begin a call.
func (w *town) begin(c *customer) {
	if c.busy {
		return
	}
	d := w.d
	next := api.Call{Client: c.Client, Inc: c.Inc, N: c.N + 1, Kind: one(d, 1, 1, 1, 1, 1, 1, 2, 2, 2, 3, 4, 6), Channel: 1 + d.IntN(w.channel)}
	switch next.Kind {
	case api.CallPublish:
		next.Seq = next.N
		next.Body = body(c.Client, next.Seq)
	case api.CallRead, api.CallTrim:
		next.At = w.ends[next.Channel] + 1 - min(w.ends[next.Channel]+1, d.Uint64N(12))
	case api.CallAck:
		next.Sub, next.At = 1+d.IntN(3), d.Uint64N(9)
	case api.CallCursor:
		next.Sub = 1 + d.IntN(3)
	}
	*c = customer{next, true, w.ends[next.Channel]}
}

// body is what a client publishes by a Seq.
func body(client int, seq uint64) []byte { return []byte{byte(client), byte(seq), byte(seq >> 8)} }

// calls has a client call a broker, for the first time or once more.
func (w *town) calls(client int) {
	c := w.clients[client]
	w.begin(c)
	call := c.Call
	w.send(onItsWay{to: one(w.d, w.desks...).crew.Setup.Node, call: &call})
}

// replied looks at what a client is told.
func (w *town) replied(r api.Reply) {
	w.t.Helper()
	c := w.clients[r.Client]
	if !c.busy || r.N != c.N || r.Inc != c.Inc {
		return
	}
	w.seen.count([]string{1: "publish", "read", "trim", "ack", "seek", "cursor"}[c.Kind]+" "+[]string{"done", "not owner", "fenced", "timeout", "full", "too large", "bad", "not found", "trimmed"}[r.Result], true)
	switch r.Result {
	case api.NotOwner, api.Fenced:
		return // it calls again
	case api.Done:
		switch c.Kind {
		case api.CallPublish:
			w.standing(message{c.Channel, c.Client, c.Seq}, r.At)
		case api.CallRead:
			if r.At != c.At || !bytes.Equal(r.Body, body(r.Producer, r.Seq)) {
				w.t.Fatalf("%+v: %+v", c, r)
			}
			w.standing(message{c.Channel, r.Producer, r.Seq}, r.At)
		}
	case api.NotFound:
		if r.At != c.At || c.At < c.ends {
			w.t.Fatalf("%+v: %+v", c, r)
		}
	case api.BadRequest:
		if c.Kind != api.CallTrim {
			w.t.Fatalf("%+v: %+v", c, r)
		}
	}
	c.busy = false
}

// standing looks whether a message stands at one offset alone, and nothing else there.
func (w *town) standing(m message, where uint64) {
	w.t.Helper()
	x := offset{m.channel, where}
	other, ok := w.log[x]
	was, known := w.stands[m]
	if ok && other != m || known && was != where {
		w.t.Fatalf("%+v stands at %d, though %+v does (%v), and it at %d (%v)", m, where, other, ok, was, known)
	}
	w.log[x], w.stands[m] = m, where
	w.ends[m.channel] = max(w.ends[m.channel], where+1)
}

// tick has time go by at a broker.
func (w *town) tick(x *desk, by uint64) {
	w.t.Helper()
	x.now += by
	w.turn(x, x.b.Tick(x.now))
}

// step has something happen.
func (w *town) step() {
	w.t.Helper()
	x := one(w.d, w.desks...)
	switch w.d.IntN(80) {
	case 0:
		w.tick(x, w.d.Uint64N(30))
	case 1:
		if w.d.IntN(12) == 0 {
			w.starts(x)
		}
	case 2:
		one(w.d, w.shelves...).crash(w.t, false)
	case 3:
		w.silent = one(w.d, 0, 0, 0, 1+w.d.IntN(11))
	case 4:
		if len(w.loses) > 0 && w.d.IntN(6) == 0 {
			one(w.d, w.loses...).crash(w.t, true)
			w.seen.count("wiped", true)
		}
	case 5:
		if w.d.IntN(4) == 0 {
			w.clients[12+w.d.IntN(4)].busy = false // it gives up
		}
	case 6:
		x.b = x.b.Copy()
	case 7, 8, 9, 10:
		w.tick(x, w.d.Uint64N(3))
	case 11, 12, 13, 14, 15, 16:
		w.calls(12 + w.d.IntN(4))
	default:
		w.deliver()
		w.deliver()
	}
}

// round ticks each broker, and has all come that is on its way.
func (w *town) round() {
	w.t.Helper()
	for _, x := range w.desks {
		w.tick(x, 1)
	}
	for i := 0; len(w.ways) > 0 && i < 2000; i++ {
		m := w.ways[0]
		w.ways = w.ways[1:]
		w.come(m)
	}
}

// asks has a client call till it is answered, whoever has the channel; it tells what it is told.
func (w *town) asks(c *customer, call api.Call) bool {
	w.t.Helper()
	call.Client, call.Inc, call.N = c.Client, c.Inc, c.N+1
	*c = customer{call, true, w.ends[call.Channel]}
	for i := 0; i < 300 && c.busy; i++ {
		w.send(onItsWay{to: w.desks[i/30%len(w.desks)].crew.Setup.Node, call: &call})
		w.round()
	}
	return !c.busy
}

// calm looks whether all goes on where nothing is lost any more: each message that was told as done is there, till it is trimmed, each call is answered, and what lost disks had is copied (P2, P3, P5).
func (w *town) calm() {
	w.t.Helper()
	w.silent = 0
	for range 60 {
		w.round()
	}
	c := w.clients[12]
	for channel := 1; channel <= w.channel; channel++ {
		for where := uint64(0); where < w.ends[channel]; where++ {
			if !w.asks(c, api.Call{Kind: api.CallRead, Channel: channel, At: where}) {
				w.t.Fatalf("a read of %d of %d is not answered: %+v", where, channel, w.desks[0].b.Tell())
			}
		}
		w.asks(c, api.Call{Kind: api.CallTrim, Channel: channel, At: w.ends[channel]})
		if seq := c.N + 1; !w.asks(c, api.Call{Kind: api.CallPublish, Channel: channel, Seq: seq, Body: body(12, seq)}) {
			w.t.Fatalf("a publish on %d is not answered: %+v", channel, w.desks[0].b.Tell())
		}
	}
	for range 60 {
		w.round()
	}
	var p api.Plan
	for _, x := range w.desks {
		if q := x.b.Plan(); q.Version >= p.Version {
			p = q
		}
	}
	for _, l := range p.Ledgers {
		for _, f := range l.Frags {
			for _, place := range f.Bookies {
				if l.Closed == 1 && place != w.shelves[place.Node-4].Place() {
					w.t.Fatalf("%+v is lost: %+v", place, p)
				}
			}
		}
	}
}

// P22.8, P22.9, and what the whole promises of brokers: one to three of them, each with a clock of its own, that begin anew, and ask one to three metas; bookies that crash, are silent, or lose their disks (as many as may); clients that call anew, at whichever broker; all that is on its way is lost at times, doubled, turned round.
func TestTown(t *testing.T) {
	t.Parallel()
	d := rand.New(rand.NewPCG(22, 2))
	seen := events{}
	for range 60 {
		w := newTown(t, d, seen)
		for range 2500 {
			w.step()
		}
		w.calm()
	}
	seen.atLeast(t, 500, "publish done", "publish not owner", "read done", "grabs", "recovers", "replays", "serves", "seeks", "copies", "copied")
	seen.atLeast(t, 100, "trim done", "ack done", "cursor done", "read not found", "read trimmed", "copy", "wiped")
	seen.atLeast(t, 50, "publish fenced", "given up")
}
