package owner_test

import (
	"bytes"
	"math/rand/v2"
	"testing"

	"scrivener/api"
	"scrivener/chain"
	"scrivener/ops"
	"scrivener/owner"
	"scrivener/plan"
	"scrivener/stripe"
)

// message is who has published something, and by which Seq.
type message struct {
	client int
	seq    uint64
}

// begunCall is a call as its client began it, and behind which offset all was told as done by then.
type begunCall struct {
	api.Call
	ends uint64
}

// wish is an operation that waits at a broker; came, once the plan has done it, though the broker does not know as yet.
type wish struct {
	op   api.Op
	came *api.Outcome
}

// desk is a broker: an owner in one of its lives, its clock, what it wants, and who waits there.
type desk struct {
	setup  api.Setup
	o      *owner.Owner
	now    uint64
	wishes []wish
	n      uint64
	waits  map[int]uint64 // the number of the call that waits, by its client
	reqs   []api.Req
	resps  []api.Resp
}

// town is brokers that may own a channel, its bookies, its clients, and the plan.
type town struct {
	t       *testing.T
	d       *rand.Rand
	seen    events
	plan    api.Plan
	desks   []*desk
	shelves []*shelf
	calls   [6][]begunCall          // all that each client has begun
	open    [6]bool                 // whether the last one goes on
	seqs    [6]uint64               // the greatest Seq of each
	oks     map[api.Key][]api.Place // who has answered some owner that it has an entry
	log     map[uint64]message      // what somebody was told as standing at an offset
	stands  map[message]uint64      // where
	ends    uint64                  // behind all that was told as done
	silent  int                     // a bookie that answers nothing for a while
}

// newTown tells one in which nothing was done.
func newTown(t *testing.T, d *rand.Rand, seen events) *town {
	t.Helper()
	w := &town{t: t, d: d, seen: seen, oks: map[api.Key][]api.Place{}, log: map[uint64]message{}, stands: map[message]uint64{}}
	w.plan, _ = plan.Start(1)
	s := api.Setup{E: 2 + d.IntN(4)}
	s.W = 1 + d.IntN(min(s.E, 3))
	s.A = 1 + d.IntN(s.W)
	for i := range 3 {
		x := &desk{setup: s, now: d.Uint64N(9)}
		x.setup.Node = 6 + i
		w.desks = append(w.desks, x)
		w.starts(x)
	}
	for node := 10; node <= 14; node++ {
		w.shelves = append(w.shelves, newShelf(t, node, one(d, 20000, 20000, 20000, 700)))
	}
	return w
}

// starts has a broker begin anew, with the first plan.
func (w *town) starts(x *desk) {
	x.setup.Inc++
	first, _ := plan.Start(1)
	x.o, _ = owner.New(x.setup, 1, first)
	x.wishes, x.n, x.waits, x.reqs, x.resps = nil, 0, map[int]uint64{}, nil, nil
}

// turn goes on with what an owner wants, and looks at whom it answers, and what (P21.8).
func (w *town) turn(x *desk, out api.Out) {
	w.t.Helper()
	x.reqs = append(x.reqs, out.Reqs...)
	for _, o := range out.Ops {
		x.wishes = append(x.wishes, wish{op: o})
	}
	for _, r := range out.Replies {
		n, ok := x.waits[r.Client]
		if !ok || n != r.N || r.Inc != 1 {
			w.t.Fatalf("%+v is told, though %d waits (%v)", r, n, ok)
		}
		delete(x.waits, r.Client)
		w.answered(r)
	}
	if tells := x.o.Tell(); tells.Calls != len(x.waits) {
		w.t.Fatalf("%+v, though %v wait", tells, x.waits)
	}
}

// answered looks at what a client is told.
func (w *town) answered(r api.Reply) {
	w.t.Helper()
	c := w.calls[r.Client][r.N-1]
	switch {
	case c.Kind == api.CallPublish && r.Result == api.Done:
		w.standing(message{c.Client, c.Seq}, r.At)
		w.kept(r)
	case c.Kind == api.CallPublish && r.Result == api.BadRequest:
		if c.Seq >= w.seqs[c.Client] {
			w.t.Fatalf("%+v: %+v, though there is no later one", c, r)
		}
	case c.Kind == api.CallRead && r.Result == api.Done:
		if r.At != c.At || !bytes.Equal(r.Body, body(r.Producer, r.Seq)) {
			w.t.Fatalf("%+v: %+v", c, r)
		}
		w.standing(message{r.Producer, r.Seq}, r.At)
	case c.Kind == api.CallRead && r.Result == api.NotFound:
		if r.At != c.At || c.At < c.ends {
			w.t.Fatalf("%+v: %+v", c, r)
		}
	case c.Kind == api.CallRead && r.Result == api.Trimmed:
		if r.At != c.At || c.At >= w.plan.Channels[0].Trim {
			w.t.Fatalf("%+v: %+v, by %+v", c, r, w.plan)
		}
	}
	w.seen.count([]string{1: "publish", "read", "trim", "ack", "seek", "cursor"}[c.Kind]+" "+[]string{"done", "not owner", "fenced", "timeout", "full", "too large", "bad", "not found", "trimmed"}[r.Result], true)
	if r.Result != api.NotOwner && r.Result != api.Fenced && int(r.N) == len(w.calls[r.Client]) {
		w.open[r.Client] = false
	}
}

// standing looks whether a message stands at one offset alone, and nothing else there (P21.9, P21.10).
func (w *town) standing(m message, at uint64) {
	w.t.Helper()
	other, ok := w.log[at]
	where, known := w.stands[m]
	if ok && other != m || known && where != at {
		w.t.Fatalf("%+v stands at %d, though %+v does (%v), and it at %d (%v)", m, at, other, ok, where, known)
	}
	w.log[at], w.stands[m] = m, at
	w.ends = max(w.ends, at+1)
}

// kept looks whether what is told as done was answered by enough, or stands in a ledger that was closed with it (P21.9).
func (w *town) kept(r api.Reply) {
	w.t.Helper()
	if r.At < w.plan.Channels[0].First {
		return
	}
	spot, e := chain.Find(w.plan, 1, api.MaxEntries, r.At)
	l, _ := plan.Find(w.plan, spot.Ledger)
	if e != api.OK || l.Closed == 0 && !stripe.Acked(stripe.Set(l.Frags, l.W, spot.N), l.A, w.oks[api.Key{Ledger: spot.Ledger, N: spot.N}]...) {
		w.t.Fatalf("%+v, but %+v has it on %v (%d)", r, l, w.oks[api.Key{Ledger: spot.Ledger, N: spot.N}], e)
	}
}

// known tells the places that answer, and can be written.
func (w *town) known() []api.Place {
	var l []api.Place
	for _, s := range w.shelves {
		for _, r := range s.asked(api.Req{Kind: api.ReqHello}) {
			if s.node != w.silent && r.Code == api.RespOk {
				l = append(l, r.From)
			}
		}
	}
	return l
}

// tick has time go by at a broker.
func (w *town) tick(x *desk, by uint64) {
	x.now += by
	w.turn(x, x.o.Tick(x.now, w.known()...))
}

// begin has a client begin a call, if none of it goes on.
func (w *town) begin(client int) {
	if w.open[client] {
		return
	}
	d := w.d
	c := api.Call{Client: client, Inc: 1, N: uint64(len(w.calls[client]) + 1), Kind: one(d, 1, 1, 1, 1, 1, 1, 2, 2, 2, 3, 4, 6), Channel: 1}
	switch c.Kind {
	case api.CallPublish:
		w.seqs[client]++
		c.Seq = w.seqs[client]
		if d.IntN(8) == 0 {
			c.Seq = 1 + d.Uint64N(c.Seq)
		}
		c.Body = body(client, c.Seq)
	case api.CallRead, api.CallTrim:
		c.At = w.ends + 1 - min(w.ends+1, d.Uint64N(9))
	case api.CallAck:
		c.Sub, c.At = 1+d.IntN(3), d.Uint64N(9)
	case api.CallCursor:
		c.Sub = 1 + d.IntN(3)
	}
	w.calls[client] = append(w.calls[client], begunCall{c, w.ends})
	w.open[client] = true
}

// calling has a client call a broker, perhaps once more, or again behind another one.
func (w *town) calling(x *desk) {
	client := 1 + w.d.IntN(5)
	w.begin(client)
	l := w.calls[client]
	c := l[len(l)-1].Call
	if w.d.IntN(20) == 0 {
		c = l[w.d.IntN(len(l))].Call // one that was lost on its way, and comes late
	}
	if n, ok := x.waits[client]; !ok || n < c.N {
		x.waits[client] = c.N
	}
	w.turn(x, x.o.Call(x.now, c))
}

// decide has the plan do what a broker wants first, or tells the broker that it did: with the plan as it is by then.
func (w *town) decide(x *desk) {
	if w.d.IntN(8) == 0 {
		x.wishes = append(x.wishes, wish{op: api.Op{Who: x.setup.Node, Inc: x.setup.Inc, Kind: api.OpConfirm, Channel: 1}})
	}
	if len(x.wishes) == 0 {
		return
	}
	y := &x.wishes[0]
	if y.op.N == 0 {
		x.n++
		y.op.N = x.n
	}
	if y.came == nil {
		p, came := ops.Apply(w.plan, y.op)
		w.plan, y.came = p, &came
		w.seen.count("stale", came.Code == api.ErrStale)
		w.seen.count([]string{1: "grab", "renew", "confirm", "ledger", "change", "close", "trim", "forget", "ack", "seek", "cursor"}[y.op.Kind], came.Code == api.OK)
		if w.d.IntN(5) == 0 {
			return // it learns it later
		}
	}
	z := *y
	x.wishes = x.wishes[1:]
	was := x.o.Tell().Phase
	w.turn(x, x.o.Decided(x.now, api.Decided{Op: z.op, Outcome: *z.came, Plan: w.plan}))
	w.seen.count("lost", was == api.OwnServes && x.o.Tell().Phase == api.OwnIdle)
}

// ask has a bookie be asked by a broker, and perhaps once more.
func (w *town) ask(x *desk) {
	if len(x.reqs) == 0 {
		return
	}
	i := w.d.IntN(min(len(x.reqs), 3))
	q := x.reqs[i]
	if w.d.IntN(12) > 0 {
		x.reqs = append(x.reqs[:i:i], x.reqs[i+1:]...)
	}
	for _, s := range w.shelves {
		if s.node == q.To.Node && s.node != w.silent {
			x.resps = append(x.resps, s.asked(q)...)
		}
	}
}

// hear has an owner hear a bookie, and perhaps once more.
func (w *town) hear(x *desk) {
	if len(x.resps) == 0 {
		return
	}
	i := w.d.IntN(min(len(x.resps), 3))
	r := x.resps[i]
	if w.d.IntN(12) > 0 {
		x.resps = append(x.resps[:i:i], x.resps[i+1:]...)
	}
	if r.Kind == api.ReqAdd && r.Code == api.RespOk {
		k := api.Key{Ledger: r.Ledger, N: r.N}
		w.oks[k] = append(w.oks[k], r.From)
	}
	w.turn(x, x.o.Take(x.now, r))
}

// step has something happen.
func (w *town) step() {
	x := w.desks[w.d.IntN(3)]
	switch w.d.IntN(60) {
	case 0:
		w.tick(x, w.d.Uint64N(40))
	case 1:
		if w.d.IntN(4) == 0 {
			w.starts(x)
		}
	case 2:
		w.shelves[w.d.IntN(len(w.shelves))].crash(w.t, false)
	case 3:
		w.silent = one(w.d, 0, 0, 10+w.d.IntN(5))
	case 4:
		w.open[1+w.d.IntN(5)] = false // it gives up
	case 5:
		x.o = x.o.Copy()
	case 6, 7, 8:
		w.tick(x, w.d.Uint64N(3))
	case 9, 10, 11, 12, 13, 14:
		w.calling(x)
	case 15, 16, 17, 18, 19, 20, 21, 22, 23, 24:
		w.decide(x)
	default:
		w.ask(x)
		w.hear(x)
	}
}

// settle has the first broker find out all that there is, in its next life, and a client read it: what was told as done is there, and each message once, each client's rising (P21.9, P21.10).
func (w *town) settle() {
	w.silent = 0
	for _, x := range w.desks {
		x.now += 1000
	}
	x := w.desks[0]
	x.now += 1000
	w.starts(x)
	w.open = [6]bool{}
	for i := 0; i < 4000 && x.o.Tell().Phase != api.OwnServes; i++ {
		if len(x.waits) == 0 {
			w.reads(x, 0)
		}
		w.work(x)
	}
	if tells := x.o.Tell(); tells.Phase != api.OwnServes || tells.Length < w.ends {
		w.t.Fatalf("it comes to %+v, of %d, by %+v", tells, w.ends, w.plan)
	}
	end := x.o.Tell().Length
	for at := w.plan.Channels[0].Trim; at < end; at++ {
		w.reads(x, at)
		for range 200 {
			w.work(x)
		}
		m, ok := w.log[at]
		if !ok {
			w.t.Fatalf("what stands at %d of %d is not told: %+v", at, end, x.o.Tell())
		}
		for other, where := range w.stands {
			if other.client == m.client && (other.seq < m.seq) != (where < at) && other != m {
				w.t.Fatalf("%+v at %d, %+v at %d", m, at, other, where)
			}
		}
	}
}

// reads has the client 5 read at an offset.
func (w *town) reads(x *desk, at uint64) {
	c := api.Call{Client: 5, Inc: 1, N: uint64(len(w.calls[5]) + 1), Kind: api.CallRead, Channel: 1, At: at}
	w.calls[5] = append(w.calls[5], begunCall{c, w.ends})
	x.waits[5] = c.N
	w.turn(x, x.o.Call(x.now, c))
}

// work has a broker have all done that it wants.
func (w *town) work(x *desk) {
	for range 4 {
		w.decide(x)
		w.ask(x)
		w.hear(x)
	}
	if w.d.IntN(4) == 0 {
		w.tick(x, 1)
	}
}

// P21.8, P21.9, P21.10: three brokers, each with a clock of its own, that begin anew, and grab the channel from one another while messages are on their way; bookies that are full, silent, or crash; clients that call anew, at whichever broker.
func TestTown(t *testing.T) {
	d := rand.New(rand.NewPCG(21, 2))
	seen := events{}
	for range 160 {
		w := newTown(t, d, seen)
		for range 2000 {
			w.step()
		}
		w.settle()
	}
	seen.atLeast(t, 1000, "publish done", "publish not owner", "read done", "stale", "renew", "confirm")
	seen.atLeast(t, 100, "grab", "ledger", "close", "forget", "trim done", "ack done", "cursor done", "publish fenced", "read not found", "read trimmed", "lost")
	seen.atLeast(t, 50, "publish bad", "change")
}
