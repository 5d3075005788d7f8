package broker_test

import (
	"math/rand/v2"
	"testing"

	"scrivener/api"
	"scrivener/bookie"
	"scrivener/disk"
	"scrivener/plan"
	"scrivener/proposer"
)

// events counts what came about, by names.
type events map[string]int

// count counts something that is so.
func (e events) count(name string, is bool) {
	if is {
		e[name]++
	}
}

// atLeast looks whether each of those came about so often.
func (e events) atLeast(t *testing.T, times int, names ...string) {
	t.Helper()
	for _, name := range names {
		if e[name] < times {
			t.Errorf("%s: %d times", name, e[name])
		}
	}
}

// shelf is a bookie of layer 13, with its disk.
type shelf struct {
	*bookie.Bookie
	node int
	disk *disk.Disk
}

// newShelf tells a bookie of a node, with a disk of so many bytes.
func newShelf(t *testing.T, node, size int) *shelf {
	t.Helper()
	s := &shelf{node: node}
	s.disk, _ = disk.New(size)
	s.open(t)
	return s
}

// open has the bookie begin anew.
func (s *shelf) open(t *testing.T) {
	t.Helper()
	b, e := bookie.Open(s.node, s.disk)
	if e != api.OK {
		t.Fatal(e)
	}
	s.Bookie = b
}

// crash has the bookie lose what is not synced, and begin anew; its disk, too, is lost, if that is asked for.
func (s *shelf) crash(t *testing.T, wiped bool) {
	t.Helper()
	s.disk.Crash(0, 0)
	if wiped {
		s.disk.Wipe()
	}
	s.disk.Start()
	s.open(t)
}

// asked has the bookie be asked by a node, and tells what it answers.
func (s *shelf) asked(from int, q api.Req) []api.Resp {
	if !s.Take(from, q) {
		return nil
	}
	var l []api.Resp
	given, _ := s.Flush()
	for _, g := range given {
		l = append(l, g.Resp)
	}
	return l
}

// pick takes one of a row out of it, one of the first ones more often than not; at times it stays there, too, or it is lost: false.
func pick[T any](d *rand.Rand, l *[]T) (T, bool) {
	var x T
	if len(*l) == 0 {
		return x, false
	}
	i := 0
	if d.IntN(3) == 0 {
		i = d.IntN(len(*l))
	}
	x = (*l)[i]
	if d.IntN(12) > 0 {
		*l = append((*l)[:i:i], (*l)[i+1:]...)
	}
	return x, d.IntN(25) > 0
}

// house is a broker with all it stands among: metas, bookies, clients, another broker that does operations at times.
type house struct {
	t       *testing.T
	d       *rand.Rand
	seen    events
	p       *pair
	now     uint64
	metas   []*rule
	other   api.Proposer
	others  uint64 // how many operations it has begun
	shelves []*shelf
	wipes   int // how many disks may be lost yet
	copies  int // the copier's phase, as of what was done last
	asks    []api.Ask
	said    []api.Says
	reqs    []api.Req
	resps   []api.Resp
	calls   [16]api.Call // the last one of each client
	seqs    uint64
}

// drawCrew draws a crew that may be; the node 14 is none of it.
func drawCrew(d *rand.Rand) api.Crew {
	c := api.Crew{Metas: one(d, 1, 3), Channels: 1 + d.IntN(3)}
	bookies := 1 + d.IntN(5)
	for _, i := range d.Perm(9)[:bookies] {
		c.Bookies = append(c.Bookies, 4+i)
	}
	c.Setup = api.Setup{Node: 4 + d.IntN(10), Inc: 1 + d.Uint64N(3), E: 1 + max(d.IntN(bookies), d.IntN(bookies))}
	c.Setup.W = 1 + max(d.IntN(min(c.Setup.E, 3)), d.IntN(min(c.Setup.E, 3)))
	c.Setup.A = 1 + d.IntN(c.Setup.W)
	return c
}

// newHouse tells one in which nothing was done.
func newHouse(t *testing.T, d *rand.Rand, seen events) *house {
	t.Helper()
	h := &house{t: t, d: d, seen: seen, now: d.Uint64N(20), wipes: d.IntN(5)}
	c := drawCrew(d)
	h.p = newPair(t, c, h.now)
	h.p.room = one(d, 0, 0, 3)
	for i := range c.Metas {
		h.metas = append(h.metas, &rule{node: i + 1})
	}
	h.other, _ = proposer.New(14, 1, c.Metas, c.Channels)
	for _, node := range c.Bookies {
		h.shelves = append(h.shelves, newShelf(t, node, one(d, 9000, 9000, 9000, 9000, 1200)))
	}
	return h
}

// turn goes on with what the broker sends.
func (h *house) turn(x api.Sends) {
	h.asks = append(h.asks, x.Asks...)
	h.reqs = append(h.reqs, x.Reqs...)
	for _, q := range x.Reqs {
		h.seen.count([]string{"", "add", "fence", "get", "free", "hello"}[q.Kind], true)
	}
	for _, r := range x.Replies {
		h.seen.count([]string{"done", "not owner", "fenced", "timeout", "quota", "too large", "bad", "not found", "trimmed"}[r.Result], true)
	}
	m := h.p.m
	h.seen.count("full", len(m.waits) == 64)
	h.seen.count("copied", h.copies == 3 && m.copier == nil)
	h.seen.count("given up", h.copies == 4 || h.copies > 0 && h.copies < 3 && m.copier == nil)
	h.copies = 0
	if m.copier != nil {
		h.copies = m.copier.Phase
		h.seen.count([]string{"", "seeks", "copies", "asks", ""}[h.copies], true)
	}
}

// does has another broker do an operation at once.
func (h *house) does(o api.Op) {
	h.others++
	o.Who, o.Inc, o.N = 14, 1, h.others
	p, asks, e := proposer.Start(h.other, 0, o)
	if e != api.OK {
		return
	}
	for tries := uint64(1); !proposer.Idle(p); tries++ {
		var more []api.Ask
		for _, x := range asks {
			var next []api.Ask
			p, next, _ = proposer.Take(p, 0, h.metas[x.To-1].asked(x))
			more = append(more, next...)
		}
		if asks = more; len(asks) == 0 && !proposer.Idle(p) {
			p, asks = proposer.Tick(p, tries*99)
		}
		p.Since = 0
	}
	h.other = p
}

// latest tells the plan that was accepted by the highest ballot.
func (h *house) latest() api.Plan {
	best := h.metas[0]
	for _, m := range h.metas {
		if below(best.accepted, m.accepted) {
			best = m
		}
	}
	return best.plan()
}

// interferes has another broker do something: it grabs a channel, closes what is open there, or has ledgers be no more.
func (h *house) interferes() {
	p := h.latest()
	channel := 1 + h.d.IntN(h.p.m.crew.Channels)
	o := api.Op{Kind: api.OpGrab, Channel: channel, Now: h.now + 12}
	if len(p.Channels) >= channel && p.Channels[channel-1].Owner == 14 {
		row := p.Channels[channel-1]
		l, ok := plan.Open(p, channel)
		o = api.Op{Kind: api.OpTrim, Channel: channel, Epoch: row.Epoch, At: row.First + h.d.Uint64N(9)}
		if ok {
			o.Kind, o.Ledger, o.At, o.Frags = api.OpClose, l.Id, h.d.Uint64N(9), l.Frags
		}
	}
	h.does(o)
	if h.d.IntN(3) > 0 {
		h.now += 24 // so that it can be grabbed again
	}
}

// calling has a client call, and at times what no client would.
func (h *house) calling() {
	d := h.d
	client := 9 + d.IntN(7)
	was := h.calls[client]
	c := api.Call{Client: client, Inc: max(1, was.Inc), N: was.N + 1, Kind: one(d, 1, 1, 1, 1, 1, 2, 2, 3, 4, 5, 6), Channel: 1 + d.IntN(h.p.m.crew.Channels)}
	switch c.Kind {
	case api.CallPublish:
		h.seqs++
		c.Seq, c.Body = h.seqs, []byte{byte(h.seqs), byte(client)}
	case api.CallRead, api.CallTrim:
		c.At = d.Uint64N(1 + h.p.b.Tell().Owns[c.Channel-1].Length)
	case api.CallAck, api.CallSeek:
		c.Sub, c.At = 1+d.IntN(3), d.Uint64N(20)
	case api.CallCursor:
		c.Sub = 1 + d.IntN(3)
	}
	switch d.IntN(20) {
	case 0:
		c = altered(d, c)
	case 1:
		c = was
	case 2:
		c.Channel = d.IntN(6) - 1
	case 3:
		c.Body = make([]byte, 62+d.IntN(5))
	default:
		h.calls[client] = c
	}
	h.turn(h.p.call(h.now, c))
}

// asking has a meta be asked.
func (h *house) asking() {
	if x, ok := pick(h.d, &h.asks); ok {
		h.said = append(h.said, h.metas[x.To-1].asked(x))
	}
}

// hearing has the broker hear a meta; at times something else than it said.
func (h *house) hearing() {
	s, ok := pick(h.d, &h.said)
	if !ok {
		return
	}
	if h.d.IntN(60) == 0 {
		s = altered(h.d, s)
		// Of rounds at their end there is nothing to be seen any more; TestNoBallots has them.
		s.Promised.Round %= 1 << 20
	}
	h.turn(h.p.says(h.now, s))
}

// fetching has a bookie be asked.
func (h *house) fetching() {
	q, ok := pick(h.d, &h.reqs)
	for _, s := range h.shelves {
		if ok && s.node == q.To.Node {
			h.resps = append(h.resps, s.asked(h.p.m.crew.Setup.Node, q)...)
		}
	}
}

// taking has the broker hear a bookie; at times something else than it answered.
func (h *house) taking() {
	r, ok := pick(h.d, &h.resps)
	if !ok {
		return
	}
	switch h.d.IntN(60) {
	case 0:
		r = altered(h.d, r)
		r.From.Serial %= 1 << 50 // what may not be is altered seldom into what may be again
	case 1:
		r.Code = h.d.IntN(6)
	}
	x := h.p.m.place[r.From.Node]
	h.seen.count("strange", r.Kind != api.ReqHello && r.Code == api.RespStrange && r.From.Serial > x.Serial)
	h.turn(h.p.take(h.now, r))
}

// wiping has a bookie lose its disk, on which a closed ledger stands.
func (h *house) wiping() {
	l := h.latest().Ledgers
	if h.wipes == 0 || len(l) == 0 || l[0].Closed == 0 {
		return
	}
	h.wipes--
	for _, s := range h.shelves {
		if s.node == l[0].Frags[0].Bookies[0].Node {
			s.crash(h.t, true)
		}
	}
}

// stir has something happen that comes seldom.
func (h *house) stir() {
	d := h.d
	switch d.IntN(6) {
	case 1:
		h.wiping()
	case 0:
		h.shelves[d.IntN(len(h.shelves))].crash(h.t, false)
	case 2:
		h.interferes()
	case 3:
		h.p.b = h.p.b.Copy()
	case 4:
		h.now += one[uint64](d, 0, 3, 5, 9, 12, 30)
		h.turn(h.p.tick(h.now))
	case 5:
		h.turn(h.p.tick(h.now - min(h.now, d.Uint64N(6))))
	}
}

// step has something happen.
func (h *house) step() {
	switch h.d.IntN(40) {
	case 0:
		h.now += h.d.Uint64N(3)
		h.turn(h.p.tick(h.now))
	case 1:
		if h.d.IntN(4) == 0 {
			h.stir()
		}
	case 2, 3, 4:
		h.calling()
	case 5, 6, 7, 8, 9, 10, 11, 12, 13, 14:
		h.asking()
		h.asking()
		h.hearing()
		h.hearing()
	default:
		h.fetching()
		h.fetching()
		h.taking()
		h.taking()
	}
}

// P22.2 to P22.7: whatever comes, with metas that another broker asks, too, bookies that lose what they had, messages that are lost, doubled, turned round and altered: what the words say.
func TestDrawn(t *testing.T) {
	t.Parallel()
	d := rand.New(rand.NewPCG(22, 1))
	seen := events{}
	for range 60 {
		h := newHouse(t, d, seen)
		for range 3000 {
			h.step()
		}
		seen.count("replaced", h.p.m.newest.Version > 0 && h.replaced())
	}
	seen.atLeast(t, 1000, "add", "get", "free", "hello", "done", "seeks")
	seen.atLeast(t, 50, "fence", "not owner", "fenced", "quota", "bad", "not found", "trimmed", "too large", "copies", "asks")
	seen.atLeast(t, 20, "strange", "copied", "given up", "replaced")
}

// replaced tells whether a closed ledger stands on a bookie's next disk.
func (h *house) replaced() bool {
	for _, l := range h.p.m.newest.Ledgers {
		for _, f := range l.Frags {
			for _, p := range f.Bookies {
				if p.Serial > 1 && l.Closed == 1 {
					return true
				}
			}
		}
	}
	return false
}
