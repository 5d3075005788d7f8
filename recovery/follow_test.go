package recovery_test

import (
	"bytes"
	"maps"
	"math/rand/v2"
	"slices"
	"testing"

	"scrivener/api"
	"scrivener/bookie"
	"scrivener/disk"
	"scrivener/ops"
	"scrivener/plan"
	"scrivener/recovery"
	"scrivener/stripe"
	"scrivener/writer"
)

// shelf is a bookie of layer 13, with its disk.
type shelf struct {
	*bookie.Bookie
	node int
	disk *disk.Disk
}

// open has the bookie begin anew.
func (s *shelf) open(t *testing.T) {
	t.Helper()
	b, e := bookie.Open(s.node, s.disk)
	if e != api.OK {
		t.Fatal(e)
	}
	s.Bookie = b
}

// crash has the bookie lose what is not synced, and begin anew.
func (s *shelf) crash(t *testing.T) {
	s.disk.Crash(0, 0)
	s.disk.Start()
	s.open(t)
}

// shelves tells six bookies, from node 5 on, and the places that they had once: node 9 has lost its disk since, and node 10 has hardly any room.
func shelves(t *testing.T, d *rand.Rand) ([]*shelf, []api.Place) {
	t.Helper()
	var l []*shelf
	var places []api.Place
	for i, size := range []int{5000, 5000, 5000, 5000, 5000, 120} {
		s := &shelf{node: 5 + i}
		s.disk, _ = disk.New(size)
		s.open(t)
		l, places = append(l, s), append(places, s.Place())
	}
	l[4].disk.Wipe()
	l[4].crash(t)
	d.Shuffle(len(places), func(i, j int) { places[i], places[j] = places[j], places[i] })
	return l, places
}

// house is a ledger with its bookies: its owner, of epoch 1, writes it; owners of the epochs 2, 3, .. find out its end, each from the time on that it has the channel.
type house struct {
	t          *testing.T
	d          *rand.Rand
	events     seen
	plan       api.Plan
	n          uint64 // the number of the next operation
	now        uint64
	shelves    []*shelf
	places     []api.Place
	w          api.Writer
	stage      int  // of a change: 0: none is asked for; 1: it is on its way to the plan; 2: it is decided
	came       bool // whether the plan took it
	recoveries []api.Recovery
	reqs       []api.Req              // what was asked, and may come yet, or again
	resps      []api.Resp             // what was answered, and may come yet, or again
	said       map[uint64][]api.Place // which places have answered the first owner that they have an entry
	bodies     map[uint64][]byte      // what that one sent
	lasts      map[uint64]uint64      // with which entry a recovery has ended, by its epoch
	silent     []int                  // nodes that answer nothing
}

// newHouse tells one whose first owner has just made the ledger.
func newHouse(t *testing.T, d *rand.Rand, events seen, w, a int) *house {
	t.Helper()
	h := &house{t: t, d: d, events: events, n: 1, now: d.Uint64N(9), said: map[uint64][]api.Place{}, bodies: map[uint64][]byte{}, lasts: map[uint64]uint64{}}
	h.shelves, h.places = shelves(t, d)
	h.plan, _ = plan.Start(1)
	h.decides(api.Op{Kind: api.OpGrab, Now: 1})
	h.decides(api.Op{Kind: api.OpLedger, Epoch: 1, W: w, A: a, Frags: []api.Frag{frag(1, h.places[:w+d.IntN(6-w)]...)}})
	h.w, _ = writer.New(h.ledger(), 1)
	return h
}

// decides has the plan do an operation of the channel; each owner is another node.
func (h *house) decides(o api.Op) api.Outcome {
	h.t.Helper()
	o.Who, o.Inc, o.N, o.Channel = 1+len(h.recoveries), 1, h.n, 1
	if o.Kind == api.OpGrab {
		o.Who++
	}
	h.n++
	p, came := ops.Apply(h.plan, o)
	if came.Code != api.OK && came.Code != api.ErrStale {
		h.t.Fatalf("the plan refuses %+v: %+v", o, came)
	}
	h.plan = p
	return came
}

// ledger tells the ledger by the plan.
func (h *house) ledger() api.Ledger {
	l, _ := plan.Find(h.plan, 1)
	return l
}

// known tells the places that answer, and have room.
func (h *house) known() []api.Place {
	var l []api.Place
	for _, s := range h.shelves[:5] {
		if !slices.Contains(h.silent, s.node) {
			l = append(l, s.Place())
		}
	}
	return some(h.d, l)
}

// grab has another owner have the channel, and begin to find out the ledger's end.
func (h *house) grab() {
	epoch := uint64(len(h.recoveries) + 2)
	if came := h.decides(api.Op{Kind: api.OpGrab, Now: 100 * epoch}); came.Epoch != epoch {
		h.t.Fatalf("%+v", came)
	}
	x := begins(h.t, h.ledger(), epoch, h.now)
	h.recoveries = append(h.recoveries, x.r)
	h.reqs = append(h.reqs, x.reqs...)
}

// turn goes on with what a call to a recovery answered; looks after it.
func (h *house) turn(i int, x told) {
	was := h.recoveries[i]
	h.recoveries[i] = x.r
	h.reqs = append(h.reqs, x.reqs...)
	h.events.count("copies", was.Phase == 2 && x.r.Phase == 3)
	h.events.count("goes on", was.Phase == 3 && x.r.Phase == 2)
	h.events.count("renewed", len(x.r.Frags) > len(was.Frags))
	if last, ok := ends(h.t, x.r); ok && was.Phase != 4 {
		h.lasts[x.r.Epoch] = last
		h.events.count("ended by none", x.r.N <= 8)
		h.events.count("ended with all", x.r.N > 8)
	}
	h.look()
}

// look looks at each recovery that is ended: whether no entry that the first owner was told of by enough is behind its last one, and whether each up to that stands where it says, as it was sent (P16.6).
func (h *house) look() {
	kept := h.kept()
	for _, r := range h.recoveries {
		last, ok := h.lasts[r.Epoch]
		if !ok {
			continue
		}
		if h.w.Sure > last || kept > last {
			h.t.Fatalf("ended with %d, sure of %d, kept %d: %+v", last, h.w.Sure, kept, r)
		}
		for n := uint64(1); n <= last; n++ {
			var have []api.Place
			for _, s := range h.shelves {
				if b, ok := s.Get(api.Key{Ledger: 1, N: n}); ok && h.bodies[n] != nil && bytes.Equal(b, h.bodies[n]) {
					have = append(have, s.Place())
				}
			}
			if !stripe.Acked(stripe.Set(r.Frags, r.Ledger.W, n), r.Ledger.A, have...) {
				h.t.Fatalf("ended with %d, but %d stands on %v alone: %+v", last, n, have, r)
			}
		}
	}
}

// kept tells up to which entry enough have answered the first owner that they have them, by the plan.
func (h *house) kept() uint64 {
	l := h.ledger()
	if len(h.recoveries) > 0 {
		l = h.recoveries[0].Ledger
	}
	n := uint64(0)
	for stripe.Acked(stripe.Set(l.Frags, l.W, n+1), l.A, h.said[n+1]...) {
		n++
	}
	return n
}

// write has the first owner do something.
func (h *house) write() {
	var reqs []api.Req
	switch h.d.IntN(6) {
	case 0, 1:
		n := h.w.Next
		body := []byte{byte(n), byte(h.d.IntN(256))}
		var e api.Errno
		if h.w, reqs, e = writer.Send(h.w, h.now, body); e == api.OK {
			h.bodies[n] = body
		}
	case 2:
		h.w, reqs = writer.Tick(h.w, h.now)
	case 3:
		var ok bool
		if h.w, _, ok = writer.Ask(h.w, 3, h.known()...); ok {
			h.stage = 1
		}
	default:
		reqs = h.change()
	}
	h.reqs = append(h.reqs, reqs...)
}

// change has the plan decide on the change that the first owner has asked for, or that one be told of it.
func (h *house) change() []api.Req {
	var reqs []api.Req
	switch h.stage {
	case 1:
		o := api.Op{Kind: api.OpChange, Epoch: 1, Ledger: 1, Frags: []api.Frag{h.w.Change}}
		h.stage, h.came = 2, h.decides(o).Code == api.OK
		h.events.count("changed", h.came)
		h.events.count("change refused", !h.came)
	case 2:
		h.w, reqs = writer.Changed(h.w, h.now, h.came)
		h.stage = 0
	}
	return reqs
}

// ask has what was asked come to its bookie, if that answers.
func (h *house) ask(q api.Req) {
	s := h.shelves[q.To.Node-5]
	if slices.Contains(h.silent, s.node) {
		return
	}
	if !s.Take(4, q) {
		h.t.Fatalf("%+v may not be asked", q)
	}
	answers, _ := s.Flush()
	for _, g := range answers {
		a := g.Resp
		h.resps = append(h.resps, a)
		if a.Kind == api.ReqAdd && a.Code == api.RespOk && a.Epoch == 1 {
			h.said[a.N] = append(h.said[a.N], a.From)
		}
		h.events.count("full", a.Code == api.RespFull && a.Epoch > 1)
		h.events.count("strange", a.Code == api.RespStrange && a.Epoch > 1)
		h.events.count("fenced", a.Code == api.RespFenced && a.Epoch == 1)
		h.events.count("fenced by another", a.Code == api.RespFenced && a.Epoch == 2)
	}
}

// hear has an answer come to who asked: what it did once it does not do again (P16.8).
func (h *house) hear(a api.Resp) {
	h.w = writer.Take(h.w, h.now, a)
	for i, r := range h.recoveries {
		x := takes(h.t, r, h.now, a)
		again, reqs := recovery.Take(x.r, h.now+1, a)
		if !recovery.Same(again, x.r) || len(reqs) > 0 {
			h.t.Fatalf("%+v, taken twice: %+v, then %+v", a, x.r, again)
		}
		h.turn(i, x)
	}
}

// tick has all clocks go on.
func (h *house) tick(by uint64, known ...api.Place) {
	h.now += by
	for i, r := range h.recoveries {
		h.turn(i, ticks(h.t, r, h.now, known...))
	}
}

// storm has one of all things happen: what is asked and answered is lost, comes late, and comes again.
func (h *house) storm() {
	switch h.d.IntN(12) {
	case 0, 1:
		h.write()
	case 2:
		h.tick(h.d.Uint64N(5), h.known()...)
	case 3:
		h.shelves[h.d.IntN(4)].crash(h.t)
	case 4, 5, 6, 7:
		if len(h.reqs) > 0 {
			h.ask(one(h.d, h.reqs[max(0, len(h.reqs)-h.d.IntN(60)-1):]...))
		}
	default:
		if len(h.resps) > 0 {
			h.hear(one(h.d, h.resps[max(0, len(h.resps)-h.d.IntN(40)-1):]...))
		}
	}
	h.look()
}

// calm has all that is asked and answered come at once.
func (h *house) calm() {
	reqs := h.reqs
	h.reqs = nil
	for _, q := range reqs {
		h.ask(q)
	}
	resps := h.resps
	h.resps = nil
	for _, a := range resps {
		h.hear(a)
	}
	var known []api.Place
	for _, s := range h.shelves[:5] {
		if !slices.Contains(h.silent, s.node) {
			known = append(known, s.Place())
		}
	}
	h.tick(1, known...)
}

// P16.6: nothing is lost, whatever is lost on the way, doubled, and turned round, with an owner that goes on writing, and earlier ones that go on finding out.
func TestNothingIsLost(t *testing.T) {
	d := rand.New(rand.NewPCG(16, 7))
	events := seen{}
	for range 400 {
		w := 1 + d.IntN(3)
		h := newHouse(t, d, events, w, 1+d.IntN(w))
		for range d.IntN(150) {
			h.storm()
		}
		for range 1 + d.IntN(2) {
			h.grab()
			for range d.IntN(250) {
				h.storm()
			}
		}
		for range 20 {
			h.calm()
		}
		for range 60 {
			h.storm()
		}
		events.count("ended", len(h.lasts) > 0)
		events.count("both ended", len(h.lasts) > 1)
		events.count("kept", len(h.lasts) > 0 && h.kept() > 0)
		events.count("more than kept", len(h.lasts) > 0 && slices.Max(slices.Collect(maps.Values(h.lasts))) > h.kept())
	}
	events.least(t, map[string]int{"copies": 300, "goes on": 300, "renewed": 50, "ended by none": 200, "ended with all": 30, "changed": 60, "change refused": 10, "full": 20, "strange": 20, "fenced": 100, "fenced by another": 30, "ended": 250, "both ended": 30, "kept": 200, "more than kept": 20})
}

// hush has some nodes answer nothing any more, so that fewer than A places of the last fragment do not; false: too many of those have lost their disks.
func (h *house) hush(l api.Ledger) bool {
	lost := 0
	last := lastOf(l).Bookies
	for _, p := range last {
		if h.shelves[p.Node-5].Place() != p {
			lost++
		}
	}
	for _, p := range some(h.d, last) {
		if s := h.shelves[p.Node-5]; lost+1 < l.A && s.Place() == p {
			lost++
			h.silent = append(h.silent, s.node)
		}
	}
	return lost < l.A
}

// P16.7: when all but fewer than A places of the last fragment answer, and W known ones do, it ends, and the plan closes the ledger so.
func TestItEnds(t *testing.T) {
	d := rand.New(rand.NewPCG(16, 8))
	events := seen{}
	for range 400 {
		w := 1 + d.IntN(3)
		h := newHouse(t, d, events, w, 1+d.IntN(w))
		for range d.IntN(200) {
			h.storm()
		}
		h.grab()
		for range d.IntN(60) {
			h.storm()
		}
		if !h.hush(h.ledger()) {
			continue
		}
		events.count("silent", len(h.silent) > 0)
		rounds := 0
		for ; rounds < 150 && h.recoveries[0].Phase != 4 && len(h.recoveries[0].Frags) < api.MaxFrags; rounds++ {
			h.calm()
		}
		r := h.recoveries[0]
		last, ok := ends(t, r)
		if !ok {
			if len(r.Frags) < api.MaxFrags {
				t.Fatalf("it does not end: %+v", r)
			}
			continue
		}
		events.count("ended", true)
		events.count("ended late", rounds > 9)
		events.count("renewed", len(r.Frags) > len(r.Ledger.Frags))
		_, frags, _ := recovery.Ended(r)
		h.decides(api.Op{Kind: api.OpClose, Epoch: 2, Ledger: 1, At: last, Frags: frags})
		if l := h.ledger(); l.Closed != 1 || l.Last != last {
			t.Fatalf("%+v", l)
		}
	}
	events.least(t, map[string]int{"silent": 60, "ended": 200, "ended late": 50, "renewed": 50})
}

// P16.6: a place that tells none ahead of its fence may have got the entry since: that is no reason to end.
func TestNoneAheadOfFence(t *testing.T) {
	l := three()
	l.A = 1 // both of a set are to have none
	r := after(t, fresh(t, l), fenced(at(7, 1), 0), fenced(at(8, 1), 0), fenced(at(9, 1), 0))
	isIn(t, r, 2, 1)
	r.Heard = firsts(7, 9)
	r = after(t, r, none(1, at(8, 1)), none(1, at(7, 1)), none(1, at(8, 1)))
	isIn(t, r, 2, 1)
	r = after(t, r, got(1, at(8, 1)))
	isIn(t, r, 2, 2)
}

// P16.8: whatever a recovery is told, twice it does what it does once.
func TestTwice(t *testing.T) {
	d := rand.New(rand.NewPCG(16, 9))
	events := seen{}
	for range 8000 {
		r := drawRecovery(d)
		a := drawResp(d, r)
		x := takes(t, r, 40, a)
		y := takes(t, x.r, 45, a)
		if !alike(x.r, y.r) || len(y.reqs) > 0 {
			t.Fatalf("%+v, taken twice: %+v, then %+v", a, x.r, y.r)
		}
		events.count("does", !alike(r, x.r))
	}
	events.least(t, map[string]int{"does": 1000})
}
