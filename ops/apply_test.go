package ops_test

import (
	"math"
	"math/rand/v2"
	"slices"
	"testing"

	"scrivener/api"
	"scrivener/ops"
	"scrivener/plan"
)

// did looks whether an operation on a plan makes of it what is wanted, and tells that; want is handed the plan as it was.
func did(t *testing.T, name string, p api.Plan, o api.Op, came api.Outcome, want func(p *api.Plan)) {
	t.Helper()
	w := twin(p)
	if want != nil {
		want(&w)
	}
	q, out := ops.Apply(p, o)
	if out != came || !alike(q, w) {
		t.Errorf("kind %d, %s: %+v, not %+v, %+v, not %+v", o.Kind, name, out, came, q, w)
	}
	if q, out := applied(p, o); out != came || !alike(q, w) {
		t.Errorf("kind %d, %s: the model: %+v, %+v", o.Kind, name, out, q)
	}
}

// noted tells what an operation does to a plan beside its effect.
func noted(o api.Op, came api.Outcome, effect func(p *api.Plan)) func(p *api.Plan) {
	return func(p *api.Plan) {
		if effect != nil {
			effect(p)
		}
		p.Version++
		p.Past = slices.DeleteFunc(p.Past, func(x api.Past) bool { return x.Who == o.Who })
		p.Past = append(p.Past, api.Past{Who: o.Who, Inc: o.Inc, N: o.N, Outcome: came})
		slices.SortFunc(p.Past, func(a, b api.Past) int { return a.Who - b.Who })
	}
}

// row is an operation of a kind on the base, both altered, and what comes of it.
type row struct {
	name   string
	op     func(o *api.Op)
	plan   func(p *api.Plan)
	came   api.Outcome
	effect func(p *api.Plan) // nil: none
}

// rows looks whether each row of a kind is so.
func rows(t *testing.T, kind int, l ...row) {
	t.Helper()
	for _, r := range l {
		p, o := base(), good(kind)
		if r.op != nil {
			r.op(&o)
		}
		if r.plan != nil {
			r.plan(&p)
		}
		if !plan.May(p) || !ops.May(o) {
			t.Errorf("kind %d, %s: may not be: %+v, %+v", kind, r.name, p, o)
		}
		if r.came.Code != api.OK && r.effect != nil {
			t.Errorf("kind %d, %s: refused, with an effect", kind, r.name)
		}
		did(t, r.name, p, o, r.came, noted(o, r.came, r.effect))
	}
}

// P8.2: a plan or an operation that may not be changes nothing.
func TestApplyArg(t *testing.T) {
	arg := api.Outcome{Code: api.ErrArg}
	did(t, "both zero", api.Plan{}, api.Op{}, arg, nil)
	for kind := 1; kind <= 12; kind++ {
		did(t, "no plan", api.Plan{}, good(kind), arg, nil)
		did(t, "zero", base(), api.Op{}, arg, nil)
		o := good(kind)
		o.N = 0
		did(t, "no N", base(), o, arg, nil)
		o = good(kind)
		o.Who = 16
		did(t, "no node", base(), o, arg, nil)
		p := base()
		p.Ledgers[4].A = 3
		did(t, "an odd ledger", p, good(kind), arg, nil)
		p = base()
		p.Version = top + 1
		p.Past = []api.Past{{Who: 5, Inc: 3, N: 7, Outcome: api.Outcome{At: 3}}}
		did(t, "an odd plan that knows it", p, good(kind), arg, nil)
		o = good(kind)
		o.Kind = 13
		did(t, "no kind", base(), o, arg, nil)
	}
}

// P8.2: what was done is told again; behind a later one nothing is done; and these go ahead of full and stale.
func TestApplyPast(t *testing.T) {
	told := api.Outcome{Code: 7, Epoch: 5, At: 6, Ledger: 8, Owner: 9}
	old := api.Outcome{Code: api.ErrOld}
	for kind := 1; kind <= 12; kind++ {
		for _, spoil := range []func(p *api.Plan, o *api.Op){
			func(p *api.Plan, o *api.Op) {},
			func(p *api.Plan, o *api.Op) { p.Version = top },
			func(p *api.Plan, o *api.Op) { p.Channels[0].Epoch = 8 },
			func(p *api.Plan, o *api.Op) {
				o.Channel = min(o.Channel, 1) * 3
				p.Channels = p.Channels[:2]
				p.Ledgers = slices.Delete(p.Ledgers, 1, 2)
			},
		} {
			for _, c := range []struct {
				name   string
				inc, n uint64
				came   api.Outcome
				known  bool
			}{
				{"done", 3, 7, told, true},
				{"a greater N", 3, 8, old, true},
				{"the greatest N", 3, top, old, true},
				{"a greater Inc", 4, 7, old, true},
				{"a greater Inc, a lesser N", 4, 1, old, true},
				{"the greatest Inc", top, 1, old, true},
				{"a greater Inc and N", 4, 8, old, true},
				{"a lesser N", 3, 6, told, false},
				{"a lesser Inc", 2, 7, told, false},
				{"a lesser Inc, a greater N", 2, top, told, false},
			} {
				p, o := base(), good(kind)
				spoil(&p, &o)
				p.Past = []api.Past{{Who: 4, Inc: 3, N: 7}, {Who: 5, Inc: c.inc, N: c.n, Outcome: told}, {Who: 6, Inc: top, N: top, Outcome: told}}
				if c.known {
					did(t, c.name, p, o, c.came, nil)
				} else if q, came := ops.Apply(p, o); came.Code == api.ErrOld || came == told {
					t.Errorf("kind %d, %s: %+v, %+v", kind, c.name, q, came)
				}
			}
		}
	}
	for i, want := range []struct {
		who  int
		past []int
	}{{1, []int{1, 4, 6}}, {4, []int{4, 6}}, {5, []int{4, 5, 6}}, {6, []int{4, 6}}, {15, []int{4, 6, 15}}} {
		o := good(api.OpConfirm)
		o.Who, o.N = want.who, 10
		p, _ := ops.Apply(base(), o)
		var whos []int
		for _, x := range p.Past {
			whos = append(whos, x.Who)
		}
		if !slices.Equal(whos, want.past) {
			t.Errorf("%d: %v", i, whos)
		}
		did(t, "a new one of Past", base(), o, api.Outcome{At: 8}, noted(o, api.Outcome{At: 8}, nil))
	}
}

// P8.2: no more versions; that goes ahead of a channel that is not there, and of stale.
func TestApplyFull(t *testing.T) {
	for kind := 1; kind <= 12; kind++ {
		p, o := base(), good(kind)
		p.Version = top
		did(t, "the last Version", p, o, api.Outcome{Code: api.ErrFull}, nil)
		p.Channels[0].Epoch = 8
		did(t, "stale", p, o, api.Outcome{Code: api.ErrFull}, nil)
		if o.Channel = min(o.Channel, 1) * 2; o.Channel > 0 {
			p = api.Plan{Version: top, Next: 1, Channels: make([]api.Channel, 1)}
			did(t, "no channel", p, o, api.Outcome{Code: api.ErrFull}, nil)
		}
		p, o = base(), good(kind)
		p.Version = top - 1
		if q, came := ops.Apply(p, o); q.Version != top || came.Code == api.ErrFull {
			t.Errorf("kind %d: %+v, %+v", kind, q, came)
		}
	}
}

// P8.2: a channel that there is not; and an epoch that is not the channel's, which is not remembered.
func TestApplyNone(t *testing.T) {
	for kind := 1; kind <= 11; kind++ {
		for n := 2; n <= 3; n++ {
			p, o := base(), good(kind)
			p.Channels = p.Channels[:n-1]
			p.Ledgers = slices.Delete(p.Ledgers, 1, 2)
			o.Channel = n
			none := api.Outcome{Code: api.ErrNone}
			did(t, "no channel", p, o, none, noted(o, none, nil))
			o.N, o.Epoch = 8, 0
			did(t, "no channel, no epoch", p, o, none, noted(o, none, nil))
		}
		if kind == api.OpGrab {
			continue
		}
		for _, epoch := range []uint64{0, 2, 4, top} {
			o := good(kind)
			o.Epoch = epoch
			came := api.Outcome{Code: api.ErrStale, Epoch: 3, Owner: 4}
			did(t, "stale", base(), o, came, nil)
			p, again := base(), good(kind)
			p.Channels[0].Epoch = epoch
			again.Epoch = epoch
			if _, got := ops.Apply(p, again); epoch > 0 && got.Code == api.ErrStale {
				t.Errorf("kind %d of epoch %d: %+v", kind, epoch, got)
			}
		}
		o := good(kind)
		o.Channel = 2
		did(t, "nobody's", base(), o, api.Outcome{Code: api.ErrStale}, nil)
		o.Channel = 3
		did(t, "another one's", base(), o, api.Outcome{Code: api.ErrStale, Epoch: 1, Owner: 5}, nil)
	}
}

// P8.2: OpGrab.
func TestGrab(t *testing.T) {
	held := api.Outcome{Code: api.ErrState, Epoch: 3, Owner: 4}
	got := func(who int, inc, now uint64) func(p *api.Plan) {
		return func(p *api.Plan) {
			c := &p.Channels[0]
			c.Epoch, c.Owner, c.Inc, c.Renewed = c.Epoch+1, who, inc, now
		}
	}
	rows(t, api.OpGrab,
		row{"behind the lease", nil, nil, api.Outcome{Epoch: 4, Owner: 5}, got(5, 3, 19)},
		row{"long behind it", func(o *api.Op) { o.Now = top }, nil, api.Outcome{Epoch: 4, Owner: 5}, got(5, 3, top)},
		row{"in the lease", func(o *api.Op) { o.Now = 18 }, nil, held, nil},
		row{"ahead of the lease", func(o *api.Op) { o.Now = 6 }, nil, held, nil},
		row{"no Now", func(o *api.Op) { o.Now = 0 }, nil, held, nil},
		row{"the owner in the lease", func(o *api.Op) { o.Who, o.Now = 4, 8 }, nil, api.Outcome{Epoch: 4, Owner: 4}, got(4, 3, 8)},
		row{"the owner ahead of the lease", func(o *api.Op) { o.Who, o.Now = 4, 0 }, nil, api.Outcome{Epoch: 4, Owner: 4}, got(4, 3, 0)},
		row{"the owner's last epoch but one", func(o *api.Op) { o.Who = 4 }, func(p *api.Plan) { p.Channels[0].Epoch = top - 1 }, api.Outcome{Epoch: top, Owner: 4}, got(4, 3, 19)},
		row{"the last epoch", nil, func(p *api.Plan) { p.Channels[0].Epoch = top }, api.Outcome{Code: api.ErrFull}, nil},
		row{"the last epoch, the owner", func(o *api.Op) { o.Who = 4 }, func(p *api.Plan) { p.Channels[0].Epoch = top }, api.Outcome{Code: api.ErrFull}, nil},
		row{"the last epoch in the lease", func(o *api.Op) { o.Now = 18 }, func(p *api.Plan) { p.Channels[0].Epoch = top }, api.Outcome{Code: api.ErrState, Epoch: top, Owner: 4}, nil},
		row{"a lease to the end", func(o *api.Op) { o.Now = top }, func(p *api.Plan) { p.Channels[0].Renewed = top - 11 }, held, nil},
		row{"a lease to just the end", func(o *api.Op) { o.Now = top }, func(p *api.Plan) { p.Channels[0].Renewed = top - 12 }, api.Outcome{Epoch: 4, Owner: 5}, got(5, 3, top)},
		row{"a lease beyond the end", func(o *api.Op) { o.Now = top }, func(p *api.Plan) { p.Channels[0].Renewed = top }, held, nil},
		row{"nobody's", func(o *api.Op) { o.Channel, o.Now = 2, 0 }, nil, api.Outcome{Epoch: 1, Owner: 5}, func(p *api.Plan) {
			p.Channels[1] = api.Channel{Epoch: 1, Owner: 5, Inc: 3}
		}},
		row{"nobody's, with a lease", func(o *api.Op) { o.Channel, o.Now = 2, 3 }, func(p *api.Plan) { p.Channels[1].Renewed = 9 }, api.Outcome{Epoch: 1, Owner: 5}, func(p *api.Plan) {
			p.Channels[1] = api.Channel{Epoch: 1, Owner: 5, Inc: 3, Renewed: 3}
		}},
		row{"one's own anew", func(o *api.Op) { o.Channel, o.Now, o.Inc = 3, 0, 9 }, nil, api.Outcome{Epoch: 2, Owner: 5}, func(p *api.Plan) {
			p.Channels[2].Epoch, p.Channels[2].Inc = 2, 9
		}},
	)
}

// P8.2: OpRenew and OpConfirm.
func TestRenew(t *testing.T) {
	renewed := func(n uint64) func(p *api.Plan) { return func(p *api.Plan) { p.Channels[0].Renewed = n } }
	rows(t, api.OpRenew,
		row{"later", nil, nil, api.Outcome{}, renewed(9)},
		row{"the same", func(o *api.Op) { o.Now = 7 }, nil, api.Outcome{}, nil},
		row{"earlier", func(o *api.Op) { o.Now = 6 }, nil, api.Outcome{}, nil},
		row{"the last tick", func(o *api.Op) { o.Now = top }, nil, api.Outcome{}, renewed(top)},
		row{"another one's", func(o *api.Op) { o.Who = 15 }, nil, api.Outcome{}, renewed(9)},
		row{"nobody's", func(o *api.Op) { o.Channel, o.Epoch = 2, 0 }, nil, api.Outcome{}, func(p *api.Plan) { p.Channels[1].Renewed = 9 }},
	)
	rows(t, api.OpConfirm,
		row{"one's own", nil, nil, api.Outcome{At: 8}, nil},
		row{"the third", func(o *api.Op) { o.Channel, o.Epoch = 3, 1 }, func(p *api.Plan) { p.Channels[2].Trim = 6 }, api.Outcome{At: 6}, nil},
		row{"nobody's", func(o *api.Op) { o.Channel, o.Epoch = 2, 0 }, nil, api.Outcome{}, nil},
	)
}

// shut closes the base's open ledger.
func shut(p *api.Plan) { p.Ledgers[4].Closed = 1 }

// more has channel 1 of the base have eight ledgers, all closed.
func more(p *api.Plan) {
	shut(p)
	for id := uint64(10); id <= 13; id++ {
		p.Channels[0].Ledgers = append(p.Channels[0].Ledgers, id)
		p.Ledgers = append(p.Ledgers, api.Ledger{Id: id, W: 1, A: 1, Frags: frags(1), Closed: 1})
	}
	p.Next = 20
}

// first has the channels of the base begin at an offset, its trim point behind that.
func first(n, trim uint64) func(p *api.Plan) {
	return func(p *api.Plan) {
		p.Channels[0].First, p.Channels[0].Trim, p.Channels[0].Seen = n, n+trim, nil
	}
}

// both does both.
func both(f, g func(p *api.Plan)) func(p *api.Plan) { return func(p *api.Plan) { f(p); g(p) } }

// P8.2: OpLedger.
func TestLedger(t *testing.T) {
	state, full := api.Outcome{Code: api.ErrState}, api.Outcome{Code: api.ErrFull}
	begun := func(id uint64) func(p *api.Plan) {
		return func(p *api.Plan) {
			p.Channels[0].Ledgers = append(p.Channels[0].Ledgers, id)
			p.Ledgers = append(p.Ledgers, api.Ledger{Id: id, W: 3, A: 2, Frags: []api.Frag{frag(1, 7, 8, 9, 10)}})
			p.Next = id + 1
		}
	}
	rows(t, api.OpLedger,
		row{"behind a closed one", nil, shut, api.Outcome{Ledger: 10}, begun(10)},
		row{"behind an open one", nil, nil, state, nil},
		row{"a Next further on", nil, both(shut, func(p *api.Plan) { p.Next = 77 }), api.Outcome{Ledger: 77}, begun(77)},
		row{"the last Next", nil, both(shut, func(p *api.Plan) { p.Next = top }), api.Outcome{Ledger: top}, begun(top)},
		row{"beyond the last Next", nil, both(shut, func(p *api.Plan) { p.Next = top + 1 }), full, nil},
		row{"beyond the last Next, behind an open one", nil, func(p *api.Plan) { p.Next = top + 1 }, state, nil},
		row{"the first one", func(o *api.Op) { o.Channel, o.Epoch = 2, 1 }, func(p *api.Plan) { p.Channels[1] = api.Channel{Epoch: 1, Owner: 4, Inc: 1} }, api.Outcome{Ledger: 10}, func(p *api.Plan) {
			p.Channels[1].Ledgers = []uint64{10}
			p.Ledgers = append(p.Ledgers, api.Ledger{Id: 10, W: 3, A: 2, Frags: []api.Frag{frag(1, 7, 8, 9, 10)}})
			p.Next = 11
		}},
		row{"nobody's", func(o *api.Op) { o.Channel, o.Epoch = 2, 0 }, nil, state, nil},
		row{"nobody's, beyond the last Next", func(o *api.Op) { o.Channel, o.Epoch = 2, 0 }, func(p *api.Plan) { p.Next = top + 1 }, state, nil},
		row{"behind eight", nil, more, full, nil},
		row{"behind eight, the last one open", nil, both(more, func(p *api.Plan) { p.Ledgers[8].Closed = 0 }), state, nil},
		row{"the eighth", nil, both(more, func(p *api.Plan) {
			p.Channels[0].Ledgers, p.Ledgers = p.Channels[0].Ledgers[:7], p.Ledgers[:8]
		}), api.Outcome{Ledger: 20}, begun(20)},
		row{"the last end", nil, both(shut, first(top-20, 0)), api.Outcome{Ledger: 10}, begun(10)},
		row{"beyond the last end", nil, both(shut, first(top-19, 0)), full, nil},
		row{"the greatest end", nil, both(shut, first(top-12, 4)), full, nil},
	)
}

// P8.2: OpChange.
func TestChange(t *testing.T) {
	state := api.Outcome{Code: api.ErrState}
	with := func(l ...api.Frag) func(o *api.Op) { return func(o *api.Op) { o.Frags = l } }
	now := func(l ...api.Frag) func(p *api.Plan) { return func(p *api.Plan) { p.Ledgers[4].Frags = l } }
	rows(t, api.OpChange,
		row{"behind", nil, nil, api.Outcome{}, now(frag(1, 7, 8), frag(4, 7, 8), frag(5, 7, 9))},
		row{"in its place", with(frag(4, 9, 10)), nil, api.Outcome{}, now(frag(1, 7, 8), frag(4, 9, 10))},
		row{"the same", with(frag(4, 7, 8)), nil, api.Outcome{}, nil},
		row{"ahead", with(frag(3, 9, 10)), nil, state, nil},
		row{"in the place of the first", with(frag(1, 9, 10)), nil, state, nil},
		row{"from 9 on", with(frag(9, 9, 10)), nil, api.Outcome{}, now(frag(1, 7, 8), frag(4, 7, 8), frag(9, 9, 10))},
		row{"from 10 on", with(frag(10, 9, 10)), nil, state, nil},
		row{"from top on", with(frag(top, 9, 10)), nil, state, nil},
		row{"from 0 on", with(frag(0, 9, 10)), nil, state, nil},
		row{"too few places", with(frag(5, 9)), nil, state, nil},
		row{"five places", with(frag(5, 1, 2, 3, 4, 5)), nil, api.Outcome{}, now(frag(1, 7, 8), frag(4, 7, 8), frag(5, 1, 2, 3, 4, 5))},
		row{"six places", with(frag(5, 1, 2, 3, 4, 5, 6)), nil, state, nil},
		row{"a node twice", with(frag(5, 1, 1)), nil, state, nil},
		row{"no node", with(frag(5, 1, 16)), nil, state, nil},
		row{"no serial", with(api.Frag{First: 5, Bookies: []api.Place{{Node: 7}, {Node: 8}}}), nil, state, nil},
		row{"no places", with(frag(5)), nil, state, nil},
		row{"another ledger", func(o *api.Op) { o.Ledger = 5 }, nil, state, nil},
		row{"another channel's", func(o *api.Op) { o.Ledger = 3 }, nil, state, nil},
		row{"no ledger", func(o *api.Op) { o.Ledger = 8 }, nil, state, nil},
		row{"ledger 0", func(o *api.Op) { o.Ledger = 0 }, nil, state, nil},
		row{"a closed one", nil, shut, state, nil},
		row{"of a channel without ledgers", func(o *api.Op) { o.Channel, o.Epoch, o.Ledger = 2, 0, 0 }, nil, state, nil},
		row{"the only one", with(frag(1, 9, 10)), func(p *api.Plan) { p.Ledgers[4].Frags = frags(1) }, api.Outcome{}, now(frag(1, 9, 10))},
		row{"the sixth", with(frag(8, 9, 10)), func(p *api.Plan) { p.Ledgers[4].Frags = frags(1, 2, 3, 4, 5) }, api.Outcome{}, now(frag(1, 7, 8), frag(2, 7, 8), frag(3, 7, 8), frag(4, 7, 8), frag(5, 7, 8), frag(8, 9, 10))},
		row{"the seventh", with(frag(8, 9, 10)), func(p *api.Plan) { p.Ledgers[4].Frags = frags(1, 2, 3, 4, 5, 7) }, api.Outcome{Code: api.ErrFull}, nil},
		row{"the seventh, ahead", with(frag(6, 9, 10)), func(p *api.Plan) { p.Ledgers[4].Frags = frags(1, 2, 3, 4, 5, 7) }, state, nil},
		row{"the seventh, which may not be", with(frag(8, 9)), func(p *api.Plan) { p.Ledgers[4].Frags = frags(1, 2, 3, 4, 5, 7) }, state, nil},
		row{"in the place of the sixth", with(frag(7, 9, 10)), func(p *api.Plan) { p.Ledgers[4].Frags = frags(1, 2, 3, 4, 5, 7) }, api.Outcome{}, now(frag(1, 7, 8), frag(2, 7, 8), frag(3, 7, 8), frag(4, 7, 8), frag(5, 7, 8), frag(7, 9, 10))},
	)
}

// P8.2: OpClose.
func TestClose(t *testing.T) {
	state := api.Outcome{Code: api.ErrState}
	with := func(l ...api.Frag) func(o *api.Op) { return func(o *api.Op) { o.Frags = l } }
	last := func(n uint64) func(o *api.Op) { return func(o *api.Op) { o.At = n } }
	closed := func(n uint64, l ...api.Frag) func(p *api.Plan) {
		return func(p *api.Plan) {
			p.Ledgers[4].Closed, p.Ledgers[4].Last = 1, n
			if p.Ledgers[4].Frags = l; len(l) == 0 {
				p.Ledgers[4].Frags = []api.Frag{frag(1, 8, 9), frag(3, 8, 10)}
			}
		}
	}
	trim := func(n uint64) func(p *api.Plan) { return func(p *api.Plan) { p.Channels[0].Trim = n } }
	rows(t, api.OpClose,
		row{"with entries", nil, nil, api.Outcome{}, closed(6)},
		row{"with all", last(8), nil, api.Outcome{}, closed(8)},
		row{"with none", last(0), nil, api.Outcome{}, closed(0)},
		row{"with too many", last(9), nil, state, nil},
		row{"with far too many", last(top), nil, state, nil},
		row{"the trim point at the closed end", last(0), trim(9), api.Outcome{}, closed(0)},
		row{"the trim point above the closed end, none", last(0), trim(10), state, nil},
		row{"the trim point above the closed end, one", last(1), trim(10), api.Outcome{}, closed(1)},
		row{"the trim point above the closed end, seven", last(7), trim(17), state, nil},
		row{"the trim point above the closed end, eight", last(8), trim(17), api.Outcome{}, closed(8)},
		row{"one fragment", with(frag(1, 7, 8)), nil, api.Outcome{}, closed(6, frag(1, 7, 8))},
		row{"six fragments", with(frags(1, 2, 3, 4, 5, 9)...), nil, api.Outcome{}, closed(6, frags(1, 2, 3, 4, 5, 9)...)},
		row{"seven fragments", with(frags(1, 2, 3, 4, 5, 6, 9)...), nil, state, nil},
		row{"from 2 on", with(frag(2, 7, 8)), nil, state, nil},
		row{"falling", with(frags(1, 4, 3)...), nil, state, nil},
		row{"twice 4", with(frags(1, 4, 4)...), nil, state, nil},
		row{"too few places", with(frag(1, 7, 8), frag(3, 7)), nil, state, nil},
		row{"a node twice", with(frag(1, 7, 7)), nil, state, nil},
		row{"another ledger", func(o *api.Op) { o.Ledger = 5 }, nil, state, nil},
		row{"another channel's", func(o *api.Op) { o.Ledger = 3 }, nil, state, nil},
		row{"no ledger", func(o *api.Op) { o.Ledger = 0 }, nil, state, nil},
		row{"a closed one", nil, shut, state, nil},
		row{"the same once more", nil, closed(6), state, nil},
		row{"of a channel without ledgers", func(o *api.Op) { o.Channel, o.Epoch, o.Ledger = 2, 0, 0 }, nil, state, nil},
		row{"the last end", last(8), first(top-20, 0), api.Outcome{}, closed(8)},
		row{"the last end, with fewer", last(5), first(top-17, 0), api.Outcome{}, closed(5)},
		row{"beyond the last end", last(6), first(top-17, 0), state, nil},
		row{"beyond the last end by one", last(8), first(top-19, 0), state, nil},
		row{"at the greatest end", last(0), first(top-12, 0), api.Outcome{}, closed(0)},
	)
}

// P8.2: OpTrim.
func TestTrim(t *testing.T) {
	arg := api.Outcome{Code: api.ErrArg}
	to := func(n uint64) func(o *api.Op) { return func(o *api.Op) { o.At = n } }
	now := func(n uint64) func(p *api.Plan) { return func(p *api.Plan) { p.Channels[0].Trim = n } }
	rows(t, api.OpTrim,
		row{"at the closed end", nil, nil, api.Outcome{At: 9}, now(9)},
		row{"where it is", to(8), nil, api.Outcome{At: 8}, nil},
		row{"ahead", to(7), nil, api.Outcome{At: 8}, nil},
		row{"at 0", to(0), nil, api.Outcome{At: 8}, nil},
		row{"eight behind the closed end", to(17), nil, api.Outcome{At: 17}, now(17)},
		row{"nine behind the closed end", to(18), nil, arg, nil},
		row{"the last number", to(top), nil, arg, nil},
		row{"all closed, at the end", to(9), shut, api.Outcome{At: 9}, now(9)},
		row{"all closed, behind the end", to(10), shut, arg, nil},
		row{"all that there is", to(top), first(top-12, 0), api.Outcome{At: top}, now(top)},
		row{"nobody's", func(o *api.Op) { o.Channel, o.Epoch, o.At = 2, 0, 0 }, nil, api.Outcome{}, nil},
		row{"nobody's, behind", func(o *api.Op) { o.Channel, o.Epoch, o.At = 2, 0, 1 }, nil, arg, nil},
	)
}

// P8.2: OpForget.
func TestForget(t *testing.T) {
	state := api.Outcome{Code: api.ErrState}
	of := func(id uint64, l ...api.Mark) func(o *api.Op) {
		return func(o *api.Op) { o.Ledger, o.Seen = id, l }
	}
	mark := func(producer int, offset uint64) api.Mark {
		return api.Mark{Producer: producer, Seq: 1, Offset: offset}
	}
	trim := func(n uint64) func(p *api.Plan) { return func(p *api.Plan) { p.Channels[0].Trim = n } }
	empty := func(p *api.Plan) { p.Channels[2].Trim, p.Ledgers[1].Last = 0, 0 }
	left := func(first uint64, ids []uint64, seen ...api.Mark) func(p *api.Plan) {
		return func(p *api.Plan) {
			c := &p.Channels[0]
			p.Ledgers = slices.DeleteFunc(p.Ledgers, func(l api.Ledger) bool { return slices.Contains(c.Ledgers, l.Id) && !slices.Contains(ids, l.Id) })
			c.Ledgers, c.First, c.Seen = ids, first, seen
		}
	}
	rows(t, api.OpForget,
		row{"two", nil, nil, api.Outcome{At: 8}, left(8, []uint64{5, 9}, good(8).Seen...)},
		row{"two, no marks", of(5), nil, api.Outcome{At: 8}, left(8, []uint64{5, 9})},
		row{"one, though two go", of(4), nil, state, nil},
		row{"none, though two go", of(2), nil, state, nil},
		row{"one with an entry that stays", of(9), nil, state, nil},
		row{"three", of(9, mark(1, 8)), trim(9), api.Outcome{At: 9}, left(9, []uint64{9}, mark(1, 8))},
		row{"two, though three go", of(5), trim(9), state, nil},
		row{"one, though three go", of(4), trim(9), state, nil},
		row{"all, though the last one is open", of(0), trim(9), state, nil},
		row{"an open one", of(0), trim(17), state, nil},
		row{"all", of(0, mark(1, 8)), both(shut, trim(9)), api.Outcome{At: 9}, left(9, nil, mark(1, 8))},
		row{"the last one that goes, which has no entries, though all go", of(9), both(shut, trim(9)), state, nil},
		row{"the last one but one, though all go", of(5), both(shut, trim(9)), state, nil},
		row{"the first one, though all go", of(2), both(shut, trim(9)), state, nil},
		row{"all, one with an entry that stays", of(0), shut, state, nil},
		row{"none, as entries stay in part", of(2), trim(7), api.Outcome{At: 5}, left(5, []uint64{2, 4, 5, 9})},
		row{"entries that stay in part", of(4), trim(7), state, nil},
		row{"entries that stay, and one that has none", of(5), trim(7), state, nil},
		row{"none that goes", of(2), trim(5), api.Outcome{At: 5}, left(5, []uint64{2, 4, 5, 9})},
		row{"a ledger that is not there", of(7), nil, state, nil},
		row{"another channel's", of(3), nil, state, nil},
		row{"beyond all", of(top), both(shut, trim(9)), state, nil},
		row{"a mark at the first offset", of(5, mark(1, 8)), nil, state, nil},
		row{"a mark behind it", of(5, mark(1, 4), mark(2, top)), nil, state, nil},
		row{"the widest mark", of(5, mark(1, 4), mark(2, math.MaxUint64)), nil, state, nil},
		row{"a mark below the last first offset", of(2, mark(1, 4)), trim(5), api.Outcome{At: 5}, left(5, []uint64{2, 4, 5, 9}, mark(1, 4))},
		row{"a mark at the last first offset", of(2, mark(1, 5)), trim(5), state, nil},
		row{"six marks", of(5, mark(1, 7), mark(2, 6), mark(3, 5), mark(5, 4), mark(6, 0), mark(15, 1)), nil, api.Outcome{At: 8}, left(8, []uint64{5, 9}, mark(1, 7), mark(2, 6), mark(3, 5), mark(5, 4), mark(6, 0), mark(15, 1))},
		row{"nobody's", func(o *api.Op) { o.Channel, o.Epoch, o.Ledger, o.Seen = 2, 0, 0, nil }, nil, api.Outcome{}, nil},
		row{"nobody's, a ledger", func(o *api.Op) { o.Channel, o.Epoch, o.Ledger, o.Seen = 2, 0, 2, nil }, nil, state, nil},
		row{"nobody's, a mark", func(o *api.Op) { o.Channel, o.Epoch, o.Ledger, o.Seen = 2, 0, 0, []api.Mark{mark(1, 0)} }, nil, state, nil},
		row{"the third channel's", func(o *api.Op) { o.Channel, o.Epoch, o.Ledger = 3, 1, 0 }, nil, api.Outcome{At: 8}, func(p *api.Plan) {
			p.Channels[2].First, p.Channels[2].Ledgers, p.Channels[2].Seen = 8, nil, good(8).Seen
			p.Ledgers = slices.Delete(p.Ledgers, 1, 2)
		}},
		row{"a first one without entries goes", func(o *api.Op) { o.Channel, o.Epoch, o.Ledger, o.Seen = 3, 1, 0, nil }, empty, api.Outcome{}, func(p *api.Plan) {
			p.Channels[2].Ledgers = nil
			p.Ledgers = slices.Delete(p.Ledgers, 1, 2)
		}},
		row{"a first one without entries, as if it stayed", func(o *api.Op) { o.Channel, o.Epoch, o.Ledger, o.Seen = 3, 1, 3, nil }, empty, state, nil},
		row{"the third channel's, as if it stayed", func(o *api.Op) { o.Channel, o.Epoch, o.Ledger, o.Seen = 3, 1, 3, nil }, nil, state, nil},
	)
}

// P8.2: OpAck, OpSeek and OpCursor.
func TestCursors(t *testing.T) {
	of := func(sub int, at uint64) func(o *api.Op) { return func(o *api.Op) { o.Sub, o.At = sub, at } }
	now := func(one, two, three int) func(p *api.Plan) {
		return func(p *api.Plan) {
			p.Channels[0].Cursors = nil
			for i, at := range []int{one, two, three} {
				if at >= 0 {
					p.Channels[0].Cursors = append(p.Channels[0].Cursors, api.Cursor{Sub: i + 1, At: uint64(at)})
				}
			}
		}
	}
	bare := func(p *api.Plan) { p.Channels[0].Cursors = nil }
	rows(t, api.OpAck,
		row{"on", nil, nil, api.Outcome{At: 7}, now(0, -1, 7)},
		row{"where it is", of(3, 6), nil, api.Outcome{At: 6}, nil},
		row{"back", of(3, 5), nil, api.Outcome{At: 6}, nil},
		row{"the first one", of(1, 4), nil, api.Outcome{At: 4}, now(4, -1, 6)},
		row{"a new one between", of(2, 4), nil, api.Outcome{At: 4}, now(0, 4, 6)},
		row{"a new one at 0", of(2, 0), nil, api.Outcome{}, now(0, 0, 6)},
		row{"the first of all", of(2, 4), bare, api.Outcome{At: 4}, now(-1, 4, -1)},
		row{"the last number", of(3, top), nil, api.Outcome{At: top}, now(0, -1, top)},
	)
	rows(t, api.OpSeek,
		row{"on", nil, nil, api.Outcome{At: 7}, now(0, -1, 7)},
		row{"back", of(3, 5), nil, api.Outcome{At: 5}, now(0, -1, 5)},
		row{"to 0", of(3, 0), nil, api.Outcome{}, now(0, -1, 0)},
		row{"where it is", of(1, 0), nil, api.Outcome{}, nil},
		row{"a new one between", of(2, 4), nil, api.Outcome{At: 4}, now(0, 4, 6)},
		row{"a new one at 0", of(2, 0), nil, api.Outcome{}, now(0, 0, 6)},
		row{"a new one ahead", of(1, 9), func(p *api.Plan) { p.Channels[0].Cursors = p.Channels[0].Cursors[1:] }, api.Outcome{At: 9}, now(9, -1, 6)},
		row{"a new one behind", of(3, 9), func(p *api.Plan) { p.Channels[0].Cursors = p.Channels[0].Cursors[:1] }, api.Outcome{At: 9}, now(0, -1, 9)},
		row{"the last number", of(3, top), nil, api.Outcome{At: top}, now(0, -1, top)},
	)
	rows(t, api.OpCursor,
		row{"one", nil, nil, api.Outcome{At: 6}, nil},
		row{"another one", of(1, 0), func(p *api.Plan) { p.Channels[0].Cursors[0].At = top }, api.Outcome{At: top}, nil},
		row{"none", of(2, 0), nil, api.Outcome{}, nil},
		row{"none of none", nil, bare, api.Outcome{}, nil},
		row{"nobody's", func(o *api.Op) { o.Channel, o.Epoch = 2, 0 }, nil, api.Outcome{}, nil},
	)
}

// P8.2: OpReplace.
func TestReplace(t *testing.T) {
	state := api.Outcome{Code: api.ErrState}
	at := func(ledger uint64, from, to api.Place) func(o *api.Op) {
		return func(o *api.Op) { o.Ledger, o.From, o.To = ledger, from, to }
	}
	place := func(node int, serial uint64) api.Place { return api.Place{Node: node, Serial: serial} }
	now := func(i int, l ...api.Frag) func(p *api.Plan) { return func(p *api.Plan) { p.Ledgers[i].Frags = l } }
	row1 := func(places ...api.Place) api.Frag { return api.Frag{First: 1, Bookies: places} }
	rows(t, api.OpReplace,
		row{"the first of two", nil, nil, api.Outcome{}, now(0, frag(1, 9, 8))},
		row{"the second of two", at(2, place(8, 1), place(9, 1)), nil, api.Outcome{}, now(0, frag(1, 7, 9))},
		row{"by its own node", at(2, place(7, 1), place(7, 2)), nil, api.Outcome{}, now(0, row1(place(7, 2), place(8, 1)))},
		row{"by a node that is there", at(2, place(7, 1), place(8, 2)), nil, state, nil},
		row{"by a place that is there", at(2, place(7, 1), place(8, 1)), nil, state, nil},
		row{"one that is not there", at(2, place(9, 1), place(10, 1)), nil, state, nil},
		row{"one of another serial", at(2, place(7, 2), place(10, 1)), nil, state, nil},
		row{"in each fragment", at(5, place(7, 1), place(9, 3)), nil, api.Outcome{}, func(p *api.Plan) {
			for i := range p.Ledgers[3].Frags {
				p.Ledgers[3].Frags[i].Bookies[0] = place(9, 3)
			}
		}},
		row{"in some fragments", at(3, place(8, 1), place(12, 1)), nil, api.Outcome{}, now(1, frag(1, 7, 12, 9, 10, 11), frag(9, 7))},
		row{"where the other fragment has its node", at(3, place(8, 1), place(12, 1)), func(p *api.Plan) { p.Ledgers[1].Frags[1] = frag(9, 12) }, api.Outcome{}, now(1, frag(1, 7, 12, 9, 10, 11), frag(9, 12))},
		row{"where one of two has its node", at(3, place(7, 1), place(11, 2)), nil, state, nil},
		row{"where the second of two has its node", at(3, place(7, 1), place(12, 2)), func(p *api.Plan) { p.Ledgers[1].Frags[1] = frag(9, 7, 12) }, state, nil},
		row{"only in the second", at(3, place(12, 1), place(8, 2)), func(p *api.Plan) { p.Ledgers[1].Frags[1] = frag(9, 7, 12) }, api.Outcome{}, func(p *api.Plan) {
			p.Ledgers[1].Frags[1].Bookies[1] = place(8, 2)
		}},
		row{"the last of five", at(3, place(11, 1), place(1, top)), nil, api.Outcome{}, func(p *api.Plan) { p.Ledgers[1].Frags[0].Bookies[4] = place(1, top) }},
		row{"of an open one", at(9, place(7, 1), place(9, 1)), nil, state, nil},
		row{"of none", at(8, place(7, 1), place(9, 1)), nil, state, nil},
		row{"of ledger 0", at(0, place(7, 1), place(9, 1)), nil, state, nil},
		row{"of the last Id", at(top, place(7, 1), place(9, 1)), nil, state, nil},
	)
}

// P8.2, P8.4: whatever plan and operation: what the words say. Each code comes often enough of each kind that it may come of.
func TestApplyDrawn(t *testing.T) {
	d := rand.New(rand.NewPCG(8, 3))
	seen := map[[2]int]int{}
	try := func(p api.Plan, o api.Op) {
		t.Helper()
		q, came := ops.Apply(p, o)
		if r, want := applied(p, o); came != want || !alike(q, r) {
			t.Fatalf("%+v, %+v: %+v, not %+v; %+v, not %+v", p, o, came, want, q, r)
		}
		if ops.May(o) {
			seen[[2]int{o.Kind, int(came.Code)}]++
		}
	}
	for range 3000 {
		p := drawPlan(d)
		for range 5 {
			try(p, drawOp(d, p))
		}
		o := drawOp(d, p)
		try(p, altered(d, o))
		try(altered(d, p), o)
	}
	codes := map[int][]int{1: {0, 1, 3, 4, 5, 9}, 4: {0, 1, 3, 4, 5, 8, 9}, 5: {0, 1, 3, 4, 5, 8, 9}, 6: {0, 1, 3, 4, 5, 8, 9}, 8: {0, 1, 3, 4, 5, 8, 9}, 12: {0, 1, 3, 5, 9}}
	for kind := 1; kind <= 12; kind++ {
		l, ok := codes[kind]
		if !ok {
			l = []int{0, 1, 3, 4, 8, 9}
		}
		for _, code := range l {
			if seen[[2]int{kind, code}] < 10 {
				t.Errorf("kind %d comes to %d %d times", kind, code, seen[[2]int{kind, code}])
			}
		}
	}
}
