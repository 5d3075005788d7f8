package owner_test

import (
	"math/rand/v2"
	"testing"

	"scrivener/api"
	"scrivener/bookie"
	"scrivener/disk"
	"scrivener/ops"
	"scrivener/plan"
)

// events counts what came about, by names.
type events map[string]int

// count counts something that is so.
func (e events) count(name string, is bool) {
	if is {
		e[name]++
	}
}

// atLeast looks whether each of those came about so often.
func (e events) atLeast(t *testing.T, times int, names ...string) {
	t.Helper()
	for _, name := range names {
		if e[name] < times {
			t.Errorf("%s: %d times", name, e[name])
		}
	}
}

// shelf is a bookie of layer 13, with its disk.
type shelf struct {
	*bookie.Bookie
	node int
	disk *disk.Disk
}

// newShelf tells a bookie of a node, with a disk of so many bytes.
func newShelf(t *testing.T, node, size int) *shelf {
	t.Helper()
	s := &shelf{node: node}
	s.disk, _ = disk.New(size)
	s.open(t)
	return s
}

// open has the bookie begin anew.
func (s *shelf) open(t *testing.T) {
	t.Helper()
	b, e := bookie.Open(s.node, s.disk)
	if e != api.OK {
		t.Fatal(e)
	}
	s.Bookie = b
}

// crash has the bookie lose what is not synced, and begin anew; its disk, too, is lost, if that is asked for.
func (s *shelf) crash(t *testing.T, wiped bool) {
	s.disk.Crash(0, 0)
	if wiped {
		s.disk.Wipe()
	}
	s.disk.Start()
	s.open(t)
}

// asked has the bookie be asked, and tells what it answers.
func (s *shelf) asked(q api.Req) []api.Resp {
	if !s.Take(4, q) {
		return nil
	}
	var l []api.Resp
	given, _ := s.Flush()
	for _, g := range given {
		l = append(l, g.Resp)
	}
	return l
}

// house is an owner with all it stands among: the plan, bookies, clients, another node that grabs the channel at times.
type house struct {
	t       *testing.T
	d       *rand.Rand
	seen    events
	p       *pair
	plan    api.Plan
	ops     []api.Op // those that wait
	n       uint64   // how many operations of its own its broker has begun
	others  uint64   // how many the other node has
	now     uint64
	shelves []*shelf
	reqs    []api.Req
	resps   []api.Resp
	calls   [16]api.Call // the last one of each client
	done    []api.Decided
}

// setups tells brokers as they may be set up.
func setups(d *rand.Rand) api.Setup {
	s := api.Setup{Node: 4, Inc: 1 + d.Uint64N(3), E: 1 + d.IntN(5)}
	s.W = 1 + d.IntN(min(s.E, 3))
	s.A = 1 + d.IntN(s.W)
	return s
}

// newHouse tells one in which nothing was done.
func newHouse(t *testing.T, d *rand.Rand, seen events) *house {
	t.Helper()
	h := &house{t: t, d: d, seen: seen, now: d.Uint64N(20)}
	channels := 1 + d.IntN(3)
	h.plan, _ = plan.Start(channels)
	h.p = newPair(t, setups(d), 1+d.IntN(channels), h.plan)
	h.p.room = one(d, 0, 0, 3)
	for node := 5; node <= 10; node++ {
		h.shelves = append(h.shelves, newShelf(t, node, one(d, 9000, 9000, 9000, 9000, 9000, 900)))
	}
	return h
}

// turn goes on with what the owner wants.
func (h *house) turn(x api.Out) {
	h.reqs = append(h.reqs, x.Reqs...)
	h.ops = append(h.ops, x.Ops...)
	for _, o := range x.Ops {
		h.seen.count([]string{1: "grab", "renew", "confirm", "ledger", "change", "close", "trim", "forget", "ack", "seek", "cursor", ""}[o.Kind], true)
	}
	for _, r := range x.Replies {
		kind := h.calls[r.Client&15].Kind
		if kind < 0 || kind > 6 {
			kind = 0
		}
		h.seen.count([]string{"?", "publish", "read", "trim", "ack", "seek", "cursor"}[kind]+" "+[]string{"done", "not owner", "fenced", "timeout", "full", "too large", "bad", "not found", "trimmed"}[r.Result], true)
	}
	h.seen.count([]string{"idle", "grabs", "recovers", "replays", "serves"}[h.p.m.phase], true)
}

// known tells the places that are there, some of them at times.
func (h *house) known() []api.Place {
	var l []api.Place
	for _, s := range h.shelves {
		l = append(l, s.Place())
	}
	if h.d.IntN(4) == 0 {
		return some(h.d, l)
	}
	return l
}

// tick has time go by.
func (h *house) tick(by uint64) {
	h.now += by
	h.turn(h.p.tick(h.now, h.known()...))
}

// drawCall draws a call of a client, the next one more often than not.
func (h *house) drawCall() api.Call {
	d := h.d
	client := 9 + d.IntN(7)
	was := h.calls[client]
	c := api.Call{Client: client, Inc: max(1, was.Inc), N: was.N + 1, Kind: one(d, 1, 1, 1, 1, 1, 2, 2, 3, 4, 5, 6), Channel: h.p.m.channel}
	switch d.IntN(16) {
	case 0:
		return was
	case 1:
		c.N = max(1, was.N) - d.Uint64N(2)
	case 2:
		c.Inc++
		c.N = 1
	}
	end := h.p.m.row().First + d.Uint64N(20)
	switch c.Kind {
	case api.CallPublish:
		h.calls[0].Seq++ // so that each producer's rise
		c.Seq, c.Body = h.calls[0].Seq, []byte{byte(d.IntN(256)), byte(client)}
		if d.IntN(4) == 0 {
			c.Seq = one(d, was.Seq, was.Seq, c.Seq-d.Uint64N(min(c.Seq, 9)))
		}
	case api.CallRead, api.CallTrim:
		c.At = one(d, end, d.Uint64N(40), h.p.m.length()-d.Uint64N(4), h.p.m.length()+d.Uint64N(2))
	case api.CallAck, api.CallSeek:
		c.Sub, c.At = 1+d.IntN(3), d.Uint64N(20)
	case api.CallCursor:
		c.Sub = 1 + d.IntN(3)
	}
	return c
}

// calling has a client call, and at times what no client would.
func (h *house) calling() {
	c := h.drawCall()
	for _, x := range h.p.m.calls {
		if x.Client == c.Client && h.d.IntN(8) > 0 {
			return // it waits
		}
	}
	if h.d.IntN(12) == 0 {
		c = altered(h.d, c)
	}
	if h.d.IntN(40) == 0 {
		c.Body = make([]byte, 62+h.d.IntN(5))
	}
	if c.Client > 8 && c.Client < 16 && h.p.m.mayCall(c) {
		if was := h.calls[c.Client]; c.Inc > was.Inc || c.Inc == was.Inc && c.N > was.N {
			h.calls[c.Client] = c
		}
	}
	h.turn(h.p.call(h.now, c))
}

// apply has the plan do an operation.
func (h *house) apply(o api.Op) api.Decided {
	var came api.Outcome
	h.plan, came = ops.Apply(h.plan, o)
	return api.Decided{Op: o, Outcome: came, Plan: h.plan}
}

// decide has the plan do an operation that waits, and tells the owner.
func (h *house) decide() {
	if len(h.ops) == 0 {
		return
	}
	o := h.ops[0]
	h.ops = h.ops[1:]
	if o.N == 0 {
		h.n++
		o.N = h.n
	}
	x := h.apply(o)
	// What the plan remembers of a call, though another one has the channel by now, is told apart (TestTakenOver).
	if h.p.m.epoch != 0 && h.plan.Channels[h.p.m.channel-1].Epoch != h.p.m.epoch && x.Outcome.Code != api.ErrStale {
		return
	}
	h.done = append(h.done, x)
	h.turn(h.p.decided(h.now, x))
}

// other has another node do something: at times it grabs the channel, and closes what is open, or makes a ledger there.
func (h *house) other() {
	h.others++
	m := h.p.m
	o := api.Op{Who: 3, Inc: 1, N: h.others, Kind: api.OpGrab, Channel: m.channel, Now: h.now}
	row := h.plan.Channels[m.channel-1]
	switch h.d.IntN(8) {
	case 0:
		o.Now += 12
	case 1:
		o.Kind, o.Channel, o.Epoch, o.Now = api.OpConfirm, 1, 0, 0
	case 5, 6, 7:
		if len(h.plan.Ledgers) == 0 {
			return
		}
		l := one(h.d, h.plan.Ledgers...)
		o.Kind, o.Channel, o.Now, o.Ledger, o.From = api.OpReplace, 0, 0, l.Id, one(h.d, l.Frags[0].Bookies...)
		o.To = one(h.d, h.shelves...).Place()
	case 2:
		o.Kind, o.Epoch, o.Now = api.OpRenew, row.Epoch, h.now
	case 3, 4:
		l, ok := plan.Open(h.plan, m.channel)
		if row.Owner != 3 || !ok {
			return
		}
		o.Kind, o.Epoch, o.Now, o.Ledger, o.At, o.Frags = api.OpClose, row.Epoch, 0, l.Id, h.d.Uint64N(9), l.Frags
	}
	x := h.apply(o)
	h.done = append(h.done, x)
	if h.d.IntN(3) > 0 {
		h.turn(h.p.decided(h.now, x))
	}
}

// ask has a bookie be asked, and perhaps once more.
func (h *house) ask() {
	if len(h.reqs) == 0 {
		return
	}
	i := 0
	if h.d.IntN(3) == 0 {
		i = h.d.IntN(len(h.reqs))
	}
	q := h.reqs[i]
	if h.d.IntN(12) > 0 {
		h.reqs = append(h.reqs[:i:i], h.reqs[i+1:]...)
	}
	for _, s := range h.shelves {
		if s.node == q.To.Node && h.d.IntN(25) > 0 {
			h.resps = append(h.resps, s.asked(q)...)
		}
	}
}

// hear has the owner hear an answer, and perhaps once more; at times another one than was answered.
func (h *house) hear() {
	if len(h.resps) == 0 {
		return
	}
	i := 0
	if h.d.IntN(3) == 0 {
		i = h.d.IntN(len(h.resps))
	}
	r := h.resps[i]
	if h.d.IntN(12) > 0 {
		h.resps = append(h.resps[:i:i], h.resps[i+1:]...)
	}
	switch h.d.IntN(40) {
	case 0:
		r = altered(h.d, r)
	case 1:
		r.Code = h.d.IntN(5)
	case 2:
		r.Body = []byte{byte(9 + h.d.IntN(7)), byte(1 + h.d.IntN(9)), 1, 7}
	}
	h.turn(h.p.take(h.now, r))
}

// stir has something happen that comes seldom.
func (h *house) stir() {
	switch h.d.IntN(7) {
	case 0:
		h.shelves[h.d.IntN(len(h.shelves))].crash(h.t, h.d.IntN(4) == 0)
	case 1:
		h.other()
	case 2:
		// Something that was decided once is told once more.
		if len(h.done) > 0 {
			x := one(h.d, h.done...)
			if x.Op.Who != 4 && x.Op.Kind < api.OpTrim {
				h.turn(h.p.decided(h.now, x))
			}
		}
	case 3:
		h.p.o = h.p.o.Copy()
	case 4:
		h.tick(one[uint64](h.d, 0, 5, 9, 12, 30))
	case 5:
		if len(h.ops) > 0 && h.ops[0].N != 0 {
			h.ops = h.ops[1:]
		}
	case 6:
		h.strange()
	}
}

// strange tells the owner of something that no plan would have come to.
func (h *house) strange() {
	m := h.p.m
	x := api.Decided{Plan: m.plan, Outcome: api.Outcome{Code: api.Errno(h.d.IntN(11)), Owner: h.d.IntN(16), At: h.d.Uint64N(30), Epoch: m.epoch + 1}}
	switch {
	case h.d.IntN(2) == 0 && m.asked != nil:
		x.Op = twin(*m.asked)
		x.Op.N = h.d.Uint64N(9)
		if x.Outcome.Code == api.OK {
			return
		}
	case len(h.ops) > 0:
		x.Op = one(h.d, h.ops...)
		if x.Op.N == 0 {
			x.Op = altered(h.d, x.Op)
		}
	}
	h.turn(h.p.decided(h.now, x))
}

// step has something happen.
func (h *house) step() {
	switch h.d.IntN(30) {
	case 0, 1, 2:
		h.tick(h.d.Uint64N(3))
	case 3, 4, 5, 6, 7, 8, 9:
		h.calling()
	case 10, 11, 12, 13:
		h.decide()
	case 14:
		h.stir()
	case 15, 16, 17, 18, 19, 20, 21, 22:
		h.ask()
	default:
		h.hear()
	}
}

// P21.2 to P21.7: whatever comes, with bookies that lose what they had, another node that grabs the channel, and much that should not be: what the words say.
func TestDrawn(t *testing.T) {
	d := rand.New(rand.NewPCG(21, 1))
	seen := events{}
	for range 120 {
		h := newHouse(t, d, seen)
		for range 900 {
			h.step()
		}
	}
	seen.atLeast(t, 1000, "idle", "grabs", "recovers", "replays", "serves", "publish done")
	seen.atLeast(t, 150, "grab", "renew", "confirm", "ledger", "change", "close", "trim", "forget", "ack", "seek", "cursor")
	seen.atLeast(t, 150, "publish fenced", "publish not owner", "publish full", "publish bad", "read done", "read not owner", "read not found", "read trimmed", "trim done", "trim not owner", "ack done", "seek done", "cursor done")
}
