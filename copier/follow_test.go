package copier_test

import (
	"bytes"
	"fmt"
	"math/rand/v2"
	"slices"
	"testing"

	"scrivener/api"
	"scrivener/bookie"
	"scrivener/disk"
	"scrivener/ops"
	"scrivener/plan"
	"scrivener/stripe"
)

// shelf is a bookie of layer 13, with its disk.
type shelf struct {
	*bookie.Bookie
	node int
	disk *disk.Disk
}

// open has the bookie begin anew.
func (s *shelf) open(t *testing.T) {
	t.Helper()
	b, e := bookie.Open(s.node, s.disk)
	if e != api.OK {
		t.Fatal(e)
	}
	s.Bookie = b
}

// crash has the bookie lose what is not synced, and begin anew.
func (s *shelf) crash(t *testing.T) {
	s.disk.Crash(0, 0)
	s.disk.Start()
	s.open(t)
}

// lose has the bookie lose its disk, and begin anew.
func (s *shelf) lose(t *testing.T) {
	s.disk.Wipe()
	s.crash(t)
}

// does has the bookie do what it is asked, and tells what it answers.
func (s *shelf) does(t *testing.T, q api.Req) api.Resp {
	t.Helper()
	if !s.Take(4, q) {
		t.Fatalf("%+v may not be asked", q)
	}
	answers, e := s.Flush()
	if e != api.OK || len(answers) != 1 {
		t.Fatalf("%+v, %d", answers, e)
	}
	return answers[0].Resp
}

// house is a channel's ledgers with their bookies, some of which lose their disks, and a copier.
type house struct {
	t       *testing.T
	d       *rand.Rand
	events  seen
	now     uint64
	plan    api.Plan
	shelves []*shelf // of the nodes 5, 6, ..; the last one has hardly any room
	c       api.Copier
	reqs    []api.Req  // what was asked, and may come yet, or again
	resps   []api.Resp // what was answered, and may come yet, or again
	heard   []api.Resp // which answers came
}

// body tells what stands as an entry of a ledger.
func body(k api.Key) []byte { return fmt.Appendf(nil, "ledger %d, entry %d", k.Ledger, k.N) }

// newHouse tells one whose ledgers are written, each entry on enough places, and closed; where none of them should stand is something else, now and then.
func newHouse(t *testing.T, d *rand.Rand, events seen, w, a int) *house {
	t.Helper()
	h := &house{t: t, d: d, events: events, now: d.Uint64N(50)}
	for node := 5; node <= 11; node++ {
		s := &shelf{node: node}
		s.disk, _ = disk.New([]int{6000, 6000, 6000, 6000, 6000, 6000, 250}[node-5])
		s.open(t)
		h.shelves = append(h.shelves, s)
	}
	h.plan, _ = plan.Start(1)
	h.decides(api.Op{Kind: api.OpGrab, Channel: 1, Now: 1})
	for id := uint64(1); id <= 2; id++ {
		l := api.Ledger{W: w}
		for len(l.Frags) == 0 || d.IntN(2) == 0 && len(l.Frags) < 4 {
			l.Frags = append(l.Frags, frag(uint64(1+2*len(l.Frags)), h.row(w)...))
		}
		h.decides(api.Op{Kind: api.OpLedger, Channel: 1, Epoch: 1, W: w, A: a, Frags: l.Frags[:1]})
		h.decides(api.Op{Kind: api.OpClose, Channel: 1, Epoch: 1, Ledger: id, At: min(d.Uint64N(16), 8), Frags: l.Frags})
		h.write(id, a)
	}
	return h
}

// row tells from w to five places of bookies that have room.
func (h *house) row(w int) []api.Place {
	var row []api.Place
	for _, i := range h.d.Perm(6)[:w+h.d.IntN(6-w)] {
		row = append(row, h.shelves[i].Place())
	}
	return row
}

// decides has the plan do an operation.
func (h *house) decides(o api.Op) {
	h.t.Helper()
	o.Who, o.Inc, o.N = 1, 1, h.plan.Version+1
	p, came := ops.Apply(h.plan, o)
	if came.Code != api.OK {
		h.t.Fatalf("the plan refuses %+v: %+v", o, came)
	}
	h.plan = p
}

// ledger tells a ledger by the plan.
func (h *house) ledger(id uint64) api.Ledger {
	l, _ := plan.Find(h.plan, id)
	return l
}

// write has each entry of a ledger stand on a places of its write set, or on more.
func (h *house) write(id uint64, a int) {
	l := h.ledger(id)
	for n := uint64(1); n <= l.Last; n++ {
		set := stripe.Set(l.Frags, l.W, n)
		h.d.Shuffle(len(set), func(i, j int) { set[i], set[j] = set[j], set[i] })
		for _, p := range set[:a+h.d.IntN(len(set)-a+1)] {
			h.put(p, api.Key{Ledger: id, N: n}, body(api.Key{Ledger: id, N: n}))
		}
		if s := one(h.d, h.shelves[:6]...); !slices.Contains(set, s.Place()) && h.d.IntN(12) == 0 {
			h.put(s.Place(), api.Key{Ledger: id, N: n}, []byte("what was never sure"))
		}
	}
}

// put has a place have an entry.
func (h *house) put(p api.Place, k api.Key, b []byte) {
	q := api.Req{To: p, Kind: api.ReqAdd, Ledger: k.Ledger, N: k.N, Epoch: 1, Body: b}
	if r := h.at(p).does(h.t, q); r.Code != api.RespOk {
		h.t.Fatalf("%+v: %+v", q, r)
	}
}

// at tells the bookie of a place's node.
func (h *house) at(p api.Place) *shelf { return h.shelves[p.Node-5] }

// has tells whether a place has an entry, as it was written.
func (h *house) has(p api.Place, k api.Key) bool {
	b, ok := h.at(p).Get(k)
	return ok && h.at(p).Place() == p && bytes.Equal(b, body(k))
}

// sources tells which places of an entry's write set have it.
func (h *house) sources(k api.Key) []api.Place {
	l := h.ledger(k.Ledger)
	return slices.DeleteFunc(stripe.Set(l.Frags, l.W, k.N), func(p api.Place) bool { return !h.has(p, k) })
}

// known tells the places that there are, in any order.
func (h *house) known() []api.Place {
	var row []api.Place
	for _, i := range h.d.Perm(len(h.shelves)) {
		row = append(row, h.shelves[i].Place())
	}
	return row
}

// begin has a copier begin with what is found; false: there is nothing to copy.
func (h *house) begin(known ...api.Place) bool {
	h.t.Helper()
	x := finds(h.t, h.plan, known...)
	if !x.ok {
		return false
	}
	l := h.ledger(x.ledger)
	if h.at(x.from).Place() == x.from || h.at(x.to).Place() != x.to {
		h.t.Fatalf("%+v is found", x)
	}
	h.renew(l, x.from, x.to)
	return true
}

// renew has a copier begin.
func (h *house) renew(l api.Ledger, from, to api.Place) {
	h.t.Helper()
	y := begins(h.t, l, from, to, h.now)
	if y.e != api.OK {
		h.t.Fatalf("%+v, %v, %v: %+v", l, from, to, y)
	}
	h.c = api.Copier{Ledger: l, From: from, To: to}
	h.turn(y)
}

// turn goes on with what a call to the copier answered. P18.6: what is sent to the new place are entries that the old one had, with the bytes that a place of their write set answered.
func (h *house) turn(x told) {
	h.t.Helper()
	was := h.c
	h.c = x.c
	for _, q := range x.reqs {
		set := less(stripe.Set(h.c.Ledger.Frags, h.c.Ledger.W, q.N), h.c.From)
		answered := func(r api.Resp) bool {
			return r.Kind == api.ReqGet && r.Code == api.RespOk && r.Ledger == q.Ledger && r.N == q.N && slices.Contains(set, r.From) && bytes.Equal(r.Body, q.Body)
		}
		switch {
		case q.Ledger != h.c.Ledger.Id || !slices.Contains(had(h.t, h.c.Ledger, h.c.From), q.N) || q.Epoch != 0:
			h.t.Fatalf("%+v asks %+v", h.c, q)
		case q.Kind == api.ReqGet && slices.Contains(set, q.To):
		case q.Kind == api.ReqAdd && q.To == h.c.To && slices.ContainsFunc(h.heard, answered):
		default:
			h.t.Fatalf("%+v asks %+v", h.c, q)
		}
	}
	h.reqs = append(h.reqs, x.reqs...)
	h.events.count("gave up", was.Phase != 4 && h.c.Phase == 4)
	h.events.count("all have none", was.Phase == 1 && h.c.Phase == 1 && h.c.N == was.N && len(h.c.None) < len(was.None))
	if was.Phase != 3 && h.c.Phase == 3 {
		h.all()
	}
}

// all looks whether the new place has all that the old one had (P18.7), as long as it has kept what it has taken.
func (h *house) all() {
	h.t.Helper()
	if h.at(h.c.To).Place() != h.c.To {
		h.events.count("all, but lost since", true)
		return
	}
	for _, n := range had(h.t, h.c.Ledger, h.c.From) {
		if k := (api.Key{Ledger: h.c.Ledger.Id, N: n}); !h.has(h.c.To, k) {
			h.t.Fatalf("%+v: %v has not %d, but %v", h.c, h.c.To, n, h.sources(k))
		}
		h.events.count("copied", true)
	}
	h.events.count("all", true)
}

// ask has what was asked come to its bookie.
func (h *house) ask(q api.Req) {
	r := h.at(q.To).does(h.t, q)
	h.events.count(fmt.Sprint("add: ", r.Code), r.Kind == api.ReqAdd)
	h.events.count(fmt.Sprint("get: ", r.Code), r.Kind == api.ReqGet)
	h.resps = append(h.resps, r)
}

// hear has an answer come to the copier.
func (h *house) hear(r api.Resp) {
	h.heard = append(h.heard, r)
	h.turn(takes(h.t, h.c, h.now, r))
}

// stray has a bookie be asked what the copier did not ask: of another place, of another ledger, by another epoch.
func (h *house) stray() {
	q := api.Req{To: one(h.d, h.known()...), Kind: api.ReqGet, Ledger: 1 + h.d.Uint64N(2), N: 1 + h.d.Uint64N(8), Epoch: h.d.Uint64N(2)}
	if h.d.IntN(2) == 0 && h.c.N > 0 {
		q.Ledger, q.N = h.c.Ledger.Id, h.c.N
	}
	h.ask(q)
}

// storm has one of all things happen: what is asked and answered is lost, comes late, and comes again.
func (h *house) storm() {
	switch h.d.IntN(16) {
	case 0, 1:
		h.now += h.d.Uint64N(3)
		h.turn(ticks(h.t, h.c, h.now))
	case 2:
		if s := one(h.d, h.shelves[:6]...); h.d.IntN(20) > 0 {
			s.crash(h.t)
		} else {
			s.lose(h.t)
		}
	case 3:
		h.stray()
	case 4, 5, 6, 7, 8:
		if len(h.reqs) > 0 {
			h.ask(one(h.d, h.reqs[max(0, len(h.reqs)-h.d.IntN(12)-1):]...))
		}
	default:
		if len(h.resps) > 0 {
			h.hear(one(h.d, h.resps[max(0, len(h.resps)-h.d.IntN(12)-1):]...))
		}
	}
}

// replaces has the plan name the new place in the old one's place: by that it has what that one had, beside what it has by other fragments.
func (h *house) replaces() {
	h.t.Helper()
	both := append(had(h.t, h.c.Ledger, h.c.From), had(h.t, h.c.Ledger, h.c.To)...)
	slices.Sort(both)
	h.decides(api.Op{Kind: api.OpReplace, Ledger: h.c.Ledger.Id, From: h.c.From, To: h.c.To})
	l := h.ledger(h.c.Ledger.Id)
	if x := had(h.t, l, h.c.To); !alike(x, both) {
		h.t.Fatalf("%+v has %v, not %v", l, x, both)
	}
	if x := had(h.t, l, h.c.From); len(x) > 0 {
		h.t.Fatalf("%+v has %v yet", l, x)
	}
}

// P18.6, P18.7: whatever is lost on the way, doubled, and turned round, and whoever asks for what beside: what is copied is what the old place had, and then it is all.
func TestAllOfIt(t *testing.T) {
	d := rand.New(rand.NewPCG(18, 9))
	events := seen{}
	for range 700 {
		w := 1 + d.IntN(4)
		h := newHouse(t, d, events, w, 1+d.IntN(w))
		for range 1 + d.IntN(2) {
			one(d, h.shelves[:6]...).lose(t)
		}
		if !h.begin(h.known()...) {
			continue
		}
		for range 1500 {
			h.storm()
			switch {
			case h.c.Phase == 4:
				h.begin(h.known()...)
				events.count("anew", true)
			case h.c.Phase == 3:
				h.replaces()
				if !h.begin(h.known()...) {
					h.c = api.Copier{}
				}
				events.count("replaced", true)
			}
			if h.c.Phase == 0 {
				break
			}
		}
	}
	events.least(t, map[string]int{
		"gave up": 3000, "all have none": 500, "copied": 1500, "all": 500, "anew": 3000, "replaced": 500,
		"add: 0": 10000, "add: 2": 1000, "add: 3": 100, "add: 4": 300, "get: 0": 10000, "get: 3": 10000, "get: 4": 10000,
	})
}

// round has all that was asked be answered, and all answers come, in any order; some come twice.
func (h *house) round() {
	reqs := h.reqs
	h.reqs, h.resps = nil, nil
	for _, q := range reqs {
		h.ask(q)
	}
	resps := h.resps
	for _, r := range resps {
		if h.d.IntN(4) == 0 {
			resps = append(resps, r)
		}
	}
	h.d.Shuffle(len(resps), func(i, j int) { resps[i], resps[j] = resps[j], resps[i] })
	for _, r := range resps {
		h.hear(r)
	}
}

// copies tells whether of each entry that the old place had some other one has it, and the new one can have it.
func (h *house) copies() bool {
	for _, n := range had(h.t, h.c.Ledger, h.c.From) {
		k := api.Key{Ledger: h.c.Ledger.Id, N: n}
		if b, ok := h.at(h.c.To).Get(k); len(h.sources(k)) == 0 || ok && !bytes.Equal(b, body(k)) {
			return false
		}
	}
	return h.c.To.Node != 11
}

// ends has a copier come to its end by rounds, each of them of four ticks at most.
func (h *house) ends() {
	h.t.Helper()
	most := 2 * len(had(h.t, h.c.Ledger, h.c.From))
	for i := range most {
		if h.c.Phase == 3 {
			h.t.Fatalf("it ends by %d rounds, not %d", i, most)
		}
		h.now += h.d.Uint64N(3)
		h.turn(ticks(h.t, h.c, h.now))
		h.now += h.d.Uint64N(3)
		h.round()
	}
	if h.c.Phase != 3 {
		h.t.Fatalf("it does not end by %d rounds: %+v", most, h.c)
	}
}

// P18.8: if some other place has each entry, and all answer in time, it ends by two rounds for each entry; by and by each place that is gone is replaced, and each entry stands on enough places again.
func TestItEnds(t *testing.T) {
	d := rand.New(rand.NewPCG(18, 10))
	events := seen{}
	for range 1500 {
		w := 2 + d.IntN(3)
		h := newHouse(t, d, events, w, 2+d.IntN(w-1))
		var spare []api.Place
		for range 1 + d.IntN(2) {
			one(d, h.shelves[:6]...).lose(t)
		}
		for _, p := range h.known() {
			if p.Node != 11 {
				spare = append(spare, p)
			}
		}
		whole := true
		for whole && h.begin(spare...) {
			events.count("on the same node", h.c.From.Node == h.c.To.Node)
			events.count("on another node", h.c.From.Node != h.c.To.Node)
			events.count("nothing to copy", h.c.Phase == 3)
			if whole = h.copies(); !whole {
				events.count("lost for ever", true)
				continue
			}
			h.ends()
			h.replaces()
			h.reqs = nil
			events.count("ended", true)
		}
		if !whole {
			continue
		}
		h.whole(spare)
		events.count("whole", true)
	}
	events.least(t, map[string]int{"on the same node": 500, "on another node": 500, "nothing to copy": 100, "lost for ever": 60, "ended": 1500, "whole": 900})
}

// whole looks whether no place of a ledger is gone, and each entry stands on enough places.
func (h *house) whole(known []api.Place) {
	h.t.Helper()
	for _, l := range h.plan.Ledgers {
		for n := uint64(1); n <= l.Last; n++ {
			if k := (api.Key{Ledger: l.Id, N: n}); len(h.sources(k)) < l.A {
				h.t.Fatalf("%v stands on %v alone: %+v", k, h.sources(k), l)
			}
		}
		for _, p := range placesOf(l) {
			if isGone(p, known) {
				h.t.Fatalf("%v is gone: %+v", p, l)
			}
		}
	}
}

// P18.7: told that it has taken an entry, by an answer to an earlier copier that asked for the same, it goes on; by an answer of the disk that was lost meanwhile it does not.
func TestLateAnswers(t *testing.T) {
	c := copying(t)
	late := put(3, 1, at(5, 2), api.RespOk)
	x := takes(t, c, 5, late)
	isAsked(t, x.reqs, 3, 3, firsts(7, 8)...)
	aside(t, x.c, late) // twice it does what it does once
	aside(t, x.c, got(3, 1, at(6, 1), "x"))
	x = takes(t, x.c, 6, got(3, 3, at(7, 1), "y"))
	isPut(t, x.reqs, 3, 8, 3, "y", at(5, 2))
	aside(t, x.c, late)
	aside(t, x.c, got(3, 3, at(8, 1), "y"))
	aside(t, x.c, put(3, 3, at(5, 1), api.RespOk))
}
