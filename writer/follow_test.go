package writer_test

import (
	"math/rand/v2"
	"slices"
	"testing"

	"scrivener/api"
	"scrivener/bookie"
	"scrivener/disk"
	"scrivener/ops"
	"scrivener/plan"
	"scrivener/writer"
)

// begun tells a plan with a ledger that its owner, by the epoch 1, has just made.
func begun(t *testing.T, w, a int, row []api.Place) api.Plan {
	t.Helper()
	p, _ := plan.Start(1)
	for i, o := range []api.Op{
		{Kind: api.OpGrab, Now: 1},
		{Kind: api.OpLedger, Epoch: 1, W: w, A: a, Frags: []api.Frag{frag(1, row...)}},
	} {
		o.Who, o.Inc, o.N, o.Channel = 4, 1, uint64(i+1), 1
		var came api.Outcome
		if p, came = ops.Apply(p, o); came.Code != api.OK {
			t.Fatalf("%+v: %+v", o, came)
		}
	}
	return p
}

// walkers is a writer, the plan that its changes are asked of, and what was answered.
type walkers struct {
	t      *testing.T
	d      *rand.Rand
	w      api.Writer
	plan   api.Plan
	n      uint64 // the number of the next operation
	now    uint64
	stage  int                    // of a change: 0: none is asked for; 1: it is on its way to the plan; 2: it is decided
	came   bool                   // whether the plan took it
	oks    map[uint64][]api.Place // who has answered that they have an entry
	reqs   []api.Req              // what was asked, and may come yet, or again
	events seen
}

// newWalkers tells a writer that has just begun.
func newWalkers(t *testing.T, d *rand.Rand, events seen, w, a int, row []api.Place) *walkers {
	t.Helper()
	k := &walkers{t: t, d: d, plan: begun(t, w, a, row), n: 3, now: d.Uint64N(9), oks: map[uint64][]api.Place{}, events: events}
	l, _ := plan.Find(k.plan, 1)
	k.w = begins(t, l, 1).w
	return k
}

// hear has the writer take an answer, and notes it; twice it does what it does once (P15.10).
func (k *walkers) hear(r api.Resp) {
	if r.Kind == api.ReqAdd && r.Ledger == 1 && r.Epoch == 1 && r.Code == api.RespOk {
		k.oks[r.N] = append(k.oks[r.N], r.From)
	}
	w := takes(k.t, k.w, k.now, r).w
	if again := writer.Take(w, k.now+1, r); !writer.Same(again, w) {
		k.t.Fatalf("%+v, taken twice: %+v, then %+v", r, w, again)
	}
	k.events.count("sure", w.Sure > k.w.Sure)
	k.events.count("many sure", w.Sure > k.w.Sure+1)
	k.turn(told{w: w})
}

// send has the writer send an entry; it has the next number, and goes to W unlike places of one fragment (P15.10).
func (k *walkers) send() {
	x := sends(k.t, k.w, k.now, []byte{byte(k.w.Next)})
	if x.e == api.OK {
		var to []api.Place
		for _, r := range x.reqs {
			if r.N != k.w.Next || slices.Contains(to, r.To) || !slices.Contains(members(k.w.Ledger), r.To) {
				k.t.Fatalf("%+v is sent by %+v", x.reqs, k.w)
			}
			to = append(to, r.To)
		}
		if len(to) != k.w.Ledger.W || x.w.Next != k.w.Next+1 {
			k.t.Fatalf("%+v is sent by %+v", x.reqs, k.w)
		}
	}
	k.turn(x)
}

// ask has the writer ask for a change, if something is bad.
func (k *walkers) ask(known ...api.Place) {
	x := asks(k.t, k.w, k.d.IntN(6), known...)
	if x.ok {
		k.stage = 1
		k.events.count("asked", true)
	}
	k.turn(x)
}

// decide has the plan take the change, or refuse it.
func (k *walkers) decide(refuse bool) {
	if k.stage != 1 {
		return
	}
	o := api.Op{Who: 4, Inc: 1, N: k.n, Kind: api.OpChange, Channel: 1, Epoch: 1, Ledger: 1, Frags: []api.Frag{k.w.Change}}
	k.n++
	if k.stage, k.came = 2, false; refuse {
		return
	}
	p, came := ops.Apply(k.plan, o)
	if came.Code != api.OK {
		k.t.Fatalf("the plan refuses %+v: %+v", o, came)
	}
	k.plan, k.came = p, true
	k.look()
}

// hearsOfChange has the writer be told of what was decided; the fragments that are new stand behind what was sure (P15.9).
func (k *walkers) hearsOfChange() {
	if k.stage != 2 {
		return
	}
	was := k.w.Ledger.Frags
	x := changes(k.t, k.w, k.now, k.came)
	for _, f := range x.w.Ledger.Frags {
		old := slices.ContainsFunc(was, func(g api.Frag) bool { return alike(f, g) })
		if !old && f.First <= k.w.Sure {
			k.t.Fatalf("%+v is sure already: %+v", f, k.w)
		}
	}
	k.stage = 0
	k.events.count("changed", k.came)
	k.events.count("in the place of one", k.came && len(x.w.Ledger.Frags) == len(was))
	k.events.count("sure by a change", x.w.Sure > k.w.Sure)
	k.turn(x)
}

// turn goes on with what a call answered; what was sure stays so, and entries are sure in their order (P15.9).
func (k *walkers) turn(x told) {
	if x.w.Sure < k.w.Sure || x.w.Next < k.w.Next || x.w.Next != x.w.Sure+1+uint64(len(x.w.Waits)) {
		k.t.Fatalf("%+v, then %+v", k.w, x.w)
	}
	for i, y := range x.w.Waits {
		if y.N != x.w.Sure+1+uint64(i) {
			k.t.Fatalf("%+v waits", x.w.Waits)
		}
	}
	k.w = x.w
	k.reqs = append(k.reqs, x.reqs...)
	k.look()
}

// look looks whether each entry up to Sure was answered by A unlike places of its write set, by the plan's fragments; and whether the writer has those, but while a change is decided that it has not heard of (P15.9).
func (k *walkers) look() {
	l, _ := plan.Find(k.plan, 1)
	for n := uint64(1); n <= k.w.Sure; n++ {
		if !isGood(l, api.Waiting{N: n, From: k.oks[n]}) {
			k.t.Fatalf("%d is not sure: %+v, by %+v, of which was heard %+v", n, k.w, l, k.oks[n])
		}
	}
	if k.stage != 2 && !alike(l, k.w.Ledger) {
		k.t.Fatalf("%+v, by the plan %+v", k.w.Ledger, l)
	}
}

// answer tells some answer, most often one to what was asked.
func (k *walkers) answer() api.Resp {
	r := drawResp(k.d, k.w)
	if k.d.IntN(40) > 0 && r.Code == api.RespFenced {
		r.Code = api.RespOk
	}
	if len(k.reqs) > 0 && k.d.IntN(3) > 0 {
		q := one(k.d, k.reqs...)
		r.From, r.N = q.To, q.N
	}
	return r
}

// own has the writer do something of its own, or the plan, once in two times; false: it did not.
func (k *walkers) own(known ...api.Place) bool {
	switch k.d.IntN(12) {
	case 0, 1:
		k.send()
	case 2:
		k.now += k.d.Uint64N(8)
		k.turn(ticks(k.t, k.w, k.now))
	case 3:
		k.ask(known...)
	case 4:
		k.decide(k.d.IntN(4) == 0)
	case 5:
		k.hearsOfChange()
	default:
		return false
	}
	return true
}

// P15.9, P15.10: whatever bookies answer, and whatever the plan makes of changes: what is sure was answered by enough.
func TestSureIsAnswered(t *testing.T) {
	d := rand.New(rand.NewPCG(15, 9))
	events := seen{}
	for range 1000 {
		w := 1 + d.IntN(4)
		k := newWalkers(t, d, events, w, 1+d.IntN(w), drawRow(d, w))
		for range 90 {
			if !k.own(drawRow(d, 0)...) {
				k.hear(k.answer())
			}
		}
		events.count("fenced", k.w.Fenced == 1)
		events.count("full", writer.Full(k.w))
		events.count("all sure", k.w.Sure == 8)
		events.count("as many fragments as may be", len(k.w.Ledger.Frags) == 6)
	}
	for name, least := range map[string]int{"sure": 1000, "many sure": 100, "asked": 1000, "changed": 500, "in the place of one": 200, "sure by a change": 100, "fenced": 100, "full": 100, "all sure": 30} {
		if events[name] < least {
			t.Errorf("%s comes %d times", name, events[name])
		}
	}
}

// shelf is a bookie of layer 13, with its disk.
type shelf struct {
	*bookie.Bookie
	node int
	disk *disk.Disk
}

// open has the bookie begin anew.
func (s *shelf) open(t *testing.T) {
	t.Helper()
	b, e := bookie.Open(s.node, s.disk)
	if e != api.OK {
		t.Fatal(e)
	}
	s.Bookie = b
}

// crash has the bookie lose what is not synced, and begin anew.
func (s *shelf) crash(t *testing.T) {
	s.disk.Crash(0, 0)
	s.disk.Start()
	s.open(t)
}

// shelves tells six bookies, from node 5 on, and the places that they had once: one has lost its disk since, and one has hardly any room.
func shelves(t *testing.T, d *rand.Rand) ([]*shelf, []api.Place) {
	t.Helper()
	var l []*shelf
	var places []api.Place
	for i, size := range []int{5000, 5000, 5000, 5000, 5000, 100} {
		s := &shelf{node: 5 + i}
		s.disk, _ = disk.New(size)
		s.open(t)
		l, places = append(l, s), append(places, s.Place())
	}
	l[4].disk.Wipe()
	l[4].crash(t)
	d.Shuffle(len(places), func(i, j int) { places[i], places[j] = places[j], places[i] })
	return l, places
}

// known tells the places of those bookies that have room.
func known(l []*shelf) []api.Place {
	var all []api.Place
	for _, s := range l[:5] {
		all = append(all, s.Place())
	}
	return all
}

// deliver has what was asked come to its bookie, and the writer hear the answer.
func (k *walkers) deliver(l []*shelf, q api.Req) {
	s := l[q.To.Node-5]
	if !s.Take(4, q) {
		k.t.Fatalf("%+v may not be asked", q)
	}
	answers, _ := s.Flush()
	for _, g := range answers {
		k.hear(g.Resp)
		k.events.count("full", g.Resp.Code == api.RespFull)
		k.events.count("strange", g.Resp.Code == api.RespStrange)
	}
}

// isKept looks whether each entry that is sure stands on A places of its write set, with its bytes.
func (k *walkers) isKept(l []*shelf) {
	ledger, _ := plan.Find(k.plan, 1)
	for n := uint64(1); n <= k.w.Sure; n++ {
		who := setOf(ledger, n)
		who = slices.DeleteFunc(who, func(p api.Place) bool {
			s := l[p.Node-5]
			b, _ := s.Get(api.Key{Ledger: 1, N: n})
			return s.Place() != p || !slices.Equal(b, []byte{byte(n)})
		})
		if len(who) < ledger.A {
			k.t.Fatalf("%d stands on %v alone: %+v", n, who, k.w)
		}
	}
}

// storm has one of all things happen between the writer and its bookies: what is asked is lost, comes late, and comes again.
func (k *walkers) storm(l []*shelf) {
	if !k.own(known(l)...) {
		if k.d.IntN(7) == 0 {
			l[k.d.IntN(4)].crash(k.t)
		} else if len(k.reqs) > 0 {
			k.deliver(l, one(k.d, k.reqs...))
		}
	}
	k.isKept(l)
}

// calm has all that is asked come at once.
func (k *walkers) calm(l []*shelf) {
	reqs := k.reqs
	k.reqs = nil
	for _, q := range reqs {
		k.deliver(l, q)
	}
	k.now++
	k.turn(ticks(k.t, k.w, k.now))
	k.ask(known(l)...)
	k.decide(false)
	k.hearsOfChange()
	k.isKept(l)
}

// P15.9: with bookies that keep what they say to have, what is sure stands on A places of its write set, whatever is lost, doubled and turned round; when nothing is any more, all that was sent is sure.
func TestSureIsKept(t *testing.T) {
	d := rand.New(rand.NewPCG(15, 10))
	events := seen{}
	for range 300 {
		l, places := shelves(t, d)
		w := 1 + d.IntN(3)
		k := newWalkers(t, d, events, w, 1+d.IntN(w), places[:w+d.IntN(6-w)])
		for range 80 {
			k.storm(l)
		}
		for range 40 {
			k.calm(l)
		}
		full := len(k.w.Ledger.Frags) == api.MaxFrags
		if k.w.Sure != k.w.Next-1 && !full {
			t.Fatalf("not all is sure: %+v", k.w)
		}
		events.count("all sure", k.w.Sure == 8)
		events.count("as many fragments as may be", full)
	}
	for name, least := range map[string]int{"sure": 500, "changed": 200, "in the place of one": 20, "sure by a change": 20, "full": 100, "strange": 100, "all sure": 200} {
		if events[name] < least {
			t.Errorf("%s comes %d times", name, events[name])
		}
	}
}
