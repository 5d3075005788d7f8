package reader_test

import (
	"bytes"
	"fmt"
	"math/rand/v2"
	"slices"
	"testing"

	"scrivener/api"
	"scrivener/bookie"
	"scrivener/disk"
	"scrivener/ops"
	"scrivener/plan"
	"scrivener/stripe"
)

// shelf is a bookie of layer 13, with its disk.
type shelf struct {
	*bookie.Bookie
	node int
	disk *disk.Disk
}

// open has the bookie begin anew.
func (s *shelf) open(t *testing.T) {
	t.Helper()
	b, e := bookie.Open(s.node, s.disk)
	if e != api.OK {
		t.Fatal(e)
	}
	s.Bookie = b
}

// lose has the bookie lose its disk, and begin anew.
func (s *shelf) lose(t *testing.T) {
	s.disk.Wipe()
	s.disk.Crash(0, 0)
	s.disk.Start()
	s.open(t)
}

// does has the bookie do what it is asked, and tells what it answers.
func (s *shelf) does(t *testing.T, q api.Req) api.Resp {
	t.Helper()
	if !s.Take(4, q) {
		t.Fatalf("%+v may not be asked", q)
	}
	answers, e := s.Flush()
	if e != api.OK || len(answers) != 1 {
		t.Fatalf("%+v, %d", answers, e)
	}
	return answers[0].Resp
}

// letter is an answer that is on its way.
type letter struct {
	due uint64
	r   api.Resp
}

// house is a ledger with its bookies, an entry of which is fetched.
type house struct {
	t       *testing.T
	d       *rand.Rand
	events  seen
	now     uint64
	ledger  api.Ledger
	f       api.Fetch
	shelves map[int]*shelf
	silent  []int // nodes that answer nothing
	doubles bool  // whether answers come more than once, and any refusals come beside them
	ways    []letter
	answers []api.Resp // those that came
}

// body tells what stands as an entry.
func body(n uint64) []byte { return fmt.Appendf(nil, "entry %d", n) }

// newHouse tells one whose ledger is written, each entry on all places, or on some.
func newHouse(t *testing.T, d *rand.Rand, events seen) *house {
	t.Helper()
	h := &house{t: t, d: d, events: events, now: d.Uint64N(50), ledger: drawLedger(d), shelves: map[int]*shelf{}, doubles: d.IntN(2) == 0}
	h.ledger.Closed, h.ledger.Last = 1, 8
	for node := 5; node <= 10; node++ {
		s := &shelf{node: node}
		s.disk, _ = disk.New(6000)
		s.open(t)
		h.shelves[node] = s
	}
	for i, f := range h.ledger.Frags {
		for j, p := range f.Bookies {
			h.ledger.Frags[i].Bookies[j] = h.shelves[p.Node].Place()
		}
	}
	for n := uint64(1); n <= 8; n++ {
		for _, p := range stripe.Set(h.ledger.Frags, h.ledger.W, n) {
			if d.IntN(3) > 0 {
				h.put(p, n)
			}
		}
	}
	return h
}

// put has a place have an entry.
func (h *house) put(p api.Place, n uint64) {
	q := api.Req{To: p, Kind: api.ReqAdd, Ledger: h.ledger.Id, N: n, Epoch: 1, Copy: 1, Body: body(n)}
	if r := h.shelves[p.Node].does(h.t, q); r.Code != api.RespOk {
		h.t.Fatalf("%+v: %+v", q, r)
	}
}

// good tells the places of an entry that have it, and answer.
func (h *house) good(set []api.Place, n uint64) []api.Place {
	var l []api.Place
	for _, p := range set {
		s := h.shelves[p.Node]
		if _, ok := s.Get(api.Key{Ledger: h.ledger.Id, N: n}); ok && s.Place() == p && !slices.Contains(h.silent, p.Node) {
			l = append(l, p)
		}
	}
	return l
}

// turn goes on with what a call to the fetch answered: what is asked is answered three ticks later at the latest, if it is.
func (h *house) turn(x told) {
	if was := h.f; was.Done == 1 && (!alike(was, x.f) || len(x.reqs) > 0) || len(x.reqs) > 1 {
		h.t.Fatalf("%+v was %+v, and asks %+v", x.f, was, x.reqs)
	}
	h.f = x.f
	for _, q := range x.reqs {
		if q.To != h.f.Set[h.f.At] {
			h.t.Fatalf("%+v asks %+v", h.f, q)
		}
		s := h.shelves[q.To.Node]
		if slices.Contains(h.silent, s.node) {
			continue
		}
		r := s.does(h.t, q)
		h.ways = append(h.ways, letter{h.now + h.d.Uint64N(4), r})
		for h.doubles && h.d.IntN(3) > 0 {
			h.ways = append(h.ways, letter{h.now + h.d.Uint64N(9), r})
		}
	}
}

// hear has all come that is due.
func (h *house) hear() {
	var due []api.Resp
	h.ways = slices.DeleteFunc(h.ways, func(l letter) bool {
		if l.due <= h.now {
			due = append(due, l.r)
		}
		return l.due <= h.now
	})
	if h.doubles {
		due = append(due, h.strays()...)
	}
	h.d.Shuffle(len(due), func(i, j int) { due[i], due[j] = due[j], due[i] })
	for _, r := range due {
		h.answers = append(h.answers, r)
		was := h.f
		x := takes(h.t, h.f, h.now, r)
		h.events.count("refused", r.Code != api.RespOk && len(x.reqs) > 0)
		h.events.count("found late", x.f.Done == 1 && was.Done == 0 && was.Set[was.At] != r.From)
		h.turn(x)
	}
}

// strays tells answers that nobody was asked for: refusals of places that do not tell the entry, and what has to do with other entries.
func (h *house) strays() []api.Resp {
	var l []api.Resp
	good := h.good(h.f.Set, h.f.N)
	for _, p := range some(h.d, h.f.Set) {
		r := api.Resp{From: p, Kind: api.ReqGet, Code: 1 + h.d.IntN(4), Ledger: h.f.Ledger, N: h.f.N, Epoch: h.f.Tag}
		if slices.Contains(good, p) {
			r.Code, r.N = h.d.IntN(5), r.N+1
		}
		l = append(l, r)
	}
	return l
}

// tick has the clock go on by one, all that is due come, and the fetch be told; either may be first.
func (h *house) tick() {
	h.now++
	first := h.d.IntN(2) == 0
	if first {
		h.hear()
	}
	was := h.f
	x := ticks(h.t, h.f, h.now)
	h.events.count("waited in vain", len(x.reqs) > 0)
	h.events.count("came round", x.f.At == 0 && was.At > 0)
	h.turn(x)
	if !first {
		h.hear()
	}
}

// spoil has some nodes lose their disks, and some be silent.
func (h *house) spoil() {
	for node := 5; node <= 10; node++ {
		switch h.d.IntN(5) {
		case 0:
			h.shelves[node].lose(h.t)
		case 1:
			h.silent = append(h.silent, node)
		}
	}
}

// wrong tells what is wrong with a fetch that should be done; none: nothing is.
func (h *house) wrong() string {
	switch {
	case h.f.Done != 1:
		return "not done"
	case !bytes.Equal(h.f.Body, body(h.f.N)):
		return "another entry"
	case !slices.ContainsFunc(h.answers, func(r api.Resp) bool {
		return r.Code == api.RespOk && slices.Contains(h.f.Set, r.From) && bytes.Equal(r.Body, h.f.Body) && r.N == h.f.N
	}):
		return "nobody has answered so"
	}
	return ""
}

// P17.6: it comes round: when one of its places has the entry and answers, each answer within three ticks, it is done within three times as many ticks as there are places. P17.7: till then one place is asked at a time; what is done stays.
func TestComesRound(t *testing.T) {
	d := rand.New(rand.NewPCG(17, 7))
	events := seen{}
	for range 3000 {
		h := newHouse(t, d, events)
		h.spoil()
		n := 1 + d.Uint64N(8)
		h.turn(begins(t, h.ledger, n, d.Uint64N(5), h.now))
		good := h.good(h.f.Set, n)
		most := h.now + 3*uint64(len(h.f.Set))
		for h.now < most {
			h.tick()
		}
		if len(good) == 0 {
			if h.f.Done != 0 || h.f.Body != nil {
				t.Fatalf("done by nobody: %+v", h.f)
			}
			events.count("nobody has it", true)
			continue
		}
		if x := h.wrong(); x != "" {
			t.Fatalf("%s: %+v, where %v have it", x, h.f, good)
		}
		events.count("done", true)
		events.count("just one has it", len(good) == 1 && len(h.f.Set) > 1)
		events.count("the last one has it", len(good) == 1 && len(h.f.Set) > 2 && good[0] == h.f.Set[len(h.f.Set)-1])
		for range 20 {
			h.tick()
		}
	}
	events.least(t, map[string]int{"refused": 500, "found late": 100, "waited in vain": 500, "came round": 100, "nobody has it": 100, "done": 1000, "just one has it": 300, "the last one has it": 60})
}

// P17.4, P17.6: when what a lost disk had is copied, and the plan has the copy in its place, a fetch that is told so is done within as many ticks from then on.
func TestMovedComesRound(t *testing.T) {
	d := rand.New(rand.NewPCG(17, 8))
	events := seen{}
	for range 1000 {
		h := newHouse(t, d, events)
		p, _ := plan.Start(1)
		decides := func(o api.Op) {
			t.Helper()
			o.Who, o.Inc, o.N = 1, 1, p.Version+1
			next, came := ops.Apply(p, o)
			if came.Code != api.OK {
				t.Fatalf("the plan refuses %+v: %+v", o, came)
			}
			p = next
		}
		decides(api.Op{Kind: api.OpGrab, Channel: 1, Now: 1})
		decides(api.Op{Kind: api.OpLedger, Channel: 1, Epoch: 1, W: h.ledger.W, A: h.ledger.A, Frags: h.ledger.Frags[:1]})
		decides(api.Op{Kind: api.OpClose, Channel: 1, Epoch: 1, Ledger: 1, At: 8, Frags: h.ledger.Frags})
		h.ledger, _ = plan.Find(p, 1)
		n := 1 + d.Uint64N(8)
		// All that have the entry lose their disks; a copy of it stands on a bookie that is fresh.
		set := stripe.Set(h.ledger.Frags, h.ledger.W, n)
		for _, from := range set {
			h.shelves[from.Node].lose(t)
		}
		fresh := &shelf{node: 11}
		fresh.disk, _ = disk.New(6000)
		fresh.open(t)
		h.shelves[11] = fresh
		h.put(fresh.Place(), n)
		h.turn(begins(t, h.ledger, n, 9, h.now))
		for range d.IntN(10) {
			h.tick()
		}
		if h.f.Done != 0 {
			t.Fatalf("%+v", h.f)
		}
		decides(api.Op{Kind: api.OpReplace, Ledger: 1, From: one(d, set...), To: fresh.Place()})
		h.ledger, _ = plan.Find(p, 1)
		events.count("moved", true)
		x := moves(t, h.f, h.now, h.ledger)
		if len(x.reqs) != 1 {
			t.Fatalf("asked: %+v", x.reqs)
		}
		h.turn(x)
		for range 3 * len(set) {
			again := moves(t, h.f, h.now, h.ledger) // told twice it does what it does once
			if stays(t, again.f, h.f); len(again.reqs) > 0 {
				t.Fatalf("asked: %+v", again.reqs)
			}
			h.tick()
		}
		if x := h.wrong(); x != "" {
			t.Fatalf("%s: %+v", x, h.f)
		}
	}
	events.least(t, map[string]int{"moved": 1000, "refused": 500})
}
