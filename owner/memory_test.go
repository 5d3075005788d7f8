package owner_test

import (
	"math/rand/v2"
	"testing"

	"scrivener/api"
	"scrivener/owner"
	"scrivener/plan"
)

// stirred tells houses in which much was done.
func stirred(t *testing.T, d *rand.Rand, many int, does func(h *house)) {
	t.Helper()
	for range many {
		h := newHouse(t, d, events{})
		for range 20 {
			for range 20 {
				h.step()
			}
			does(h)
		}
	}
}

// anything is what calls may be handed.
type anything struct {
	now     uint64
	call    api.Call
	resp    api.Resp
	decided api.Decided
	known   []api.Place
}

// drawAnything draws what an owner might be handed, of which some is as nobody would.
func drawAnything(h *house) anything {
	d := h.d
	x := anything{now: h.now, call: h.drawCall(), decided: api.Decided{Plan: twin(h.p.m.plan), Outcome: api.Outcome{Code: api.Errno(d.IntN(10)), Epoch: h.p.m.epoch, Owner: 3}}, known: h.known()}
	if h.p.m.asked != nil {
		x.decided.Op = twin(*h.p.m.asked)
	}
	if len(h.resps) > 0 {
		x.resp = one(d, h.resps...)
	} else if len(h.reqs) > 0 {
		x.resp = resp(one(d, h.reqs...), d.IntN(5))
	}
	x.decided.Plan.Version += d.Uint64N(2)
	for range one(d, 1, 2, 5, 20) {
		switch d.IntN(6) {
		case 0:
			x.now = one(d, edges()...)
		case 1:
			x.call = altered(d, x.call)
		case 2:
			x.resp = altered(d, x.resp)
		case 3:
			x.known = append(x.known, at(d.IntN(9), one(d, edges()...)))
		default:
			x.decided = altered(d, x.decided)
		}
	}
	return x
}

// handed has an owner be handed all of it, and tells all that it answers.
func (x anything) handed(o *owner.Owner) []any {
	l := []any{o.Tick(x.now, x.known...), o.Take(x.now, x.resp), o.Call(x.now, x.call), o.Decided(x.now, x.decided)}
	l = append(l, o.Call(x.now, publish(9, 99, 99)), o.Tick(x.now, x.known...), o.Decided(x.now, api.Decided{Op: x.decided.Op}))
	return append(l, o.Tell(), o.Plan())
}

// R1, R5: no arguments have a call panic, or not end; what it answers hangs on nothing but what was done to the owner, and what is done to a copy does not show.
func TestAnyArguments(t *testing.T) {
	stirred(t, rand.New(rand.NewPCG(21, 3)), 24, func(h *house) {
		for range 4 {
			a, b := h.p.o.Copy(), h.p.o.Copy()
			for range 3 {
				x := drawAnything(h)
				in := roomy(x.decided, 2)
				was := wholes(in, x.call, x.resp, x.known)
				y := x
				y.decided = in
				first, second := y.handed(a), x.handed(b)
				if !alike(first, second) {
					t.Fatalf("%+v: %+v, then %+v", x, first, second)
				}
				if !alike(was, wholes(in, x.call, x.resp, x.known)) {
					t.Fatalf("%+v was changed", x)
				}
			}
			h.p.tells("done to a copy")
		}
	})
}

// R1: plans that may not be: whatever comes of them, it goes on by the next one that may.
func TestStrangePlans(t *testing.T) {
	for name, does := range map[string]func(p *api.Plan){
		"no channels":      func(p *api.Plan) { p.Channels = nil },
		"no ledgers":       func(p *api.Plan) { p.Ledgers = nil },
		"an end far above": func(p *api.Plan) { p.Ledgers[0].Last = 1 << 63 },
		"a first above":    func(p *api.Plan) { p.Channels[0].First = 1 << 63 },
		"a first at all":   func(p *api.Plan) { p.Channels[0].First = 1<<64 - 1 },
	} {
		s := begun(t, true, 3)
		s.grabs()
		p := twin(s.plan)
		p.Version++
		p.Channels[0].Epoch, p.Channels[0].Owner = 2, 5
		does(&p)
		s.o.Decided(50, api.Decided{Op: own(api.OpGrab, api.Op{Now: 50}), Plan: p})
		s.o.Tick(60, firsts(7, 8)...)
		s.o.Call(60, publish(9, 1, 1))
		if got := s.o.Plan(); !alike(got, p) {
			t.Errorf("%s: %+v", name, got)
		}
		last := twin(s.plan)
		last.Version = p.Version + 1
		last.Channels[0].Epoch, last.Channels[0].Owner = 9, 3
		s.o.Decided(60, api.Decided{Plan: last})
		if x := s.o.Tell(); x.Phase > api.OwnGrabs || !plan.Same(s.o.Plan(), last) {
			t.Errorf("%s: %+v", name, x)
		}
	}
}

// R1: many places, and calls of many bytes.
func TestMany(t *testing.T) {
	s := serving(t)
	var known []api.Place
	for i := range 1 << 20 {
		known = append(known, at(i, 1))
	}
	s.calls(publish(8, 1, 1))
	x := s.o.Tick(5, known...)
	if len(x.Ops) != 1 || len(x.Ops[0].Frags) != 1 || len(x.Ops[0].Frags[0].Bookies) != 3 {
		t.Errorf("%+v", x)
	}
	c := publish(9, 1, 1)
	c.Body = make([]byte, 1<<26)
	if x := s.o.Call(5, c); len(x.Replies) != 1 || x.Replies[0].Result != api.TooLarge {
		t.Errorf("%+v", x)
	}
	r := api.Resp{Kind: api.ReqGet, Epoch: 1 << 60, Body: c.Body}
	is(t, s.o.Take(5, r), api.Out{})
	p := api.Plan{Version: 99}
	for i := range 1 << 16 {
		p.Channels = append(p.Channels, api.Channel{Epoch: 1, Seen: []api.Mark{{Producer: i}}, Ledgers: []uint64{uint64(i)}})
		p.Ledgers = append(p.Ledgers, api.Ledger{Id: uint64(i)})
		p.Channels[0].Seen = append(p.Channels[0].Seen, api.Mark{Producer: i})
	}
	s.o.Decided(5, api.Decided{Plan: p})
	s.o.Call(5, publish(7, 1, 1))
	if x := s.o.Plan(); len(x.Channels) != 1<<16 {
		t.Errorf("%d channels", len(x.Channels))
	}
}
