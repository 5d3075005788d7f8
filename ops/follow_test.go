package ops_test

import (
	"math/rand/v2"
	"slices"
	"testing"

	"scrivener/api"
	"scrivener/ops"
	"scrivener/plan"
)

// play has operations done one behind the other, from a first plan on, and hands on each, with the plans ahead of it and behind.
func play(d *rand.Rand, steps int, look func(p api.Plan, o api.Op, q api.Plan, came api.Outcome)) {
	p, _ := plan.Start(1 + d.IntN(3))
	n := map[int]uint64{}
	for range steps {
		o := drawOp(d, p)
		o.Inc = 1
		if n[o.Who]++; d.IntN(8) > 0 {
			o.N = n[o.Who]
		} else {
			o.N = min(o.N, n[o.Who])
		}
		if o.Kind == api.OpGrab && d.IntN(2) == 0 {
			o.Kind, o.Now = api.OpConfirm, 0
		}
		q, came := ops.Apply(p, o)
		look(p, o, q, came)
		p = q
	}
}

// P8.5: what becomes of a plan that may be, may be.
func TestMays(t *testing.T) {
	d := rand.New(rand.NewPCG(8, 4))
	for range 6000 {
		p := drawPlan(d)
		o := drawOp(d, p)
		if !plan.May(p) {
			t.Fatalf("%+v", p)
		}
		if q, _ := ops.Apply(p, o); !plan.May(q) {
			t.Fatalf("%+v, %+v: %+v", p, o, q)
		}
	}
	longest := 0
	for range 60 {
		play(d, 200, func(p api.Plan, o api.Op, q api.Plan, came api.Outcome) {
			if !plan.May(q) {
				t.Fatalf("%+v, %+v: %+v", p, o, q)
			}
			longest = max(longest, len(q.Ledgers))
		})
	}
	if longest < 6 {
		t.Error(longest)
	}
}

// P8.6: applied twice an operation is done once, with one outcome, whatever others do between.
func TestOnce(t *testing.T) {
	d := rand.New(rand.NewPCG(8, 5))
	again := 0
	for range 3000 {
		p := drawPlan(d)
		o := drawOp(d, p)
		q, came := ops.Apply(p, o)
		if q.Version == p.Version {
			continue
		}
		again++
		for range 1 + d.IntN(4) {
			x := drawOp(d, q)
			if x.Who == o.Who {
				continue
			}
			q, _ = ops.Apply(q, x)
			if r, told := ops.Apply(q, o); told != came || !alike(r, q) {
				t.Fatalf("%+v, then %+v, of %+v: %+v", came, told, o, r)
			}
		}
	}
	if again < 1000 {
		t.Error(again)
	}
}

// P8.6: what was stale is done later, once its epoch is the channel's; and once.
func TestOnceStale(t *testing.T) {
	p := base()
	o := good(api.OpRenew)
	o.Epoch = 4
	if q, came := ops.Apply(p, o); came.Code != api.ErrStale || !alike(q, p) {
		t.Errorf("%+v", came)
	}
	p, _ = ops.Apply(p, api.Op{Who: 4, Inc: 3, N: 1, Kind: api.OpGrab, Channel: 1})
	p, came := ops.Apply(p, o)
	if came != (api.Outcome{}) || p.Channels[0].Renewed != 9 || p.Version != 14 {
		t.Errorf("%+v, %+v", came, p)
	}
	if q, came := ops.Apply(p, o); came != (api.Outcome{}) || !alike(q, p) {
		t.Errorf("%+v, %+v", came, q)
	}
}

// P8.7: nothing falls, what is closed stays as it was closed, an epoch has one owner.
func TestOnlyGoesOn(t *testing.T) {
	d := rand.New(rand.NewPCG(8, 6))
	look := func(p api.Plan, o api.Op, q api.Plan, came api.Outcome) {
		t.Helper()
		bad := q.Next < p.Next || q.Version < p.Version || q.Version > p.Version+1 || len(q.Channels) != len(p.Channels)
		for i := range p.Channels {
			c, e := p.Channels[i], q.Channels[i]
			bad = bad || e.Epoch < c.Epoch || e.Trim < c.Trim || e.First < c.First
			bad = bad || e.Epoch == c.Epoch && (e.Owner != c.Owner || e.Inc != c.Inc)
			for _, id := range c.Ledgers {
				l := p.Ledgers[at(p, id)]
				k := at(q, id)
				if k < 0 {
					bad = bad || l.Closed == 0 || o.Kind != api.OpForget
					continue
				}
				m := q.Ledgers[k]
				bad = bad || m.W != l.W || m.A != l.A || l.Closed == 1 && (m.Closed != 1 || m.Last != l.Last) || !slices.Contains(e.Ledgers, id)
			}
		}
		if bad {
			t.Fatalf("%+v, %+v: %+v", p, o, q)
		}
	}
	for range 6000 {
		p := drawPlan(d)
		o := drawOp(d, p)
		q, came := ops.Apply(p, o)
		look(p, o, q, came)
	}
	owners := map[[2]uint64]int{} // of a channel's epoch
	for round := range uint64(60) {
		play(d, 150, func(p api.Plan, o api.Op, q api.Plan, came api.Outcome) {
			look(p, o, q, came)
			for i, c := range q.Channels {
				key := [2]uint64{round*3 + uint64(i), c.Epoch}
				if was, ok := owners[key]; ok && was != c.Owner {
					t.Fatalf("epoch %d is %d's and %d's", c.Epoch, was, c.Owner)
				}
				owners[key] = c.Owner
			}
		})
	}
	if len(owners) < 200 {
		t.Error(len(owners))
	}
}

// P8.8: an operation of another epoch, or another channel, changes nothing of a channel, nor of its ledgers.
func TestOwners(t *testing.T) {
	d := rand.New(rand.NewPCG(8, 7))
	others := 0
	for range 6000 {
		p := drawPlan(d)
		o := drawOp(d, p)
		q, _ := ops.Apply(p, o)
		for i, c := range p.Channels {
			if o.Kind == api.OpReplace || o.Channel == i+1 && (o.Kind == api.OpGrab || o.Epoch == c.Epoch) {
				continue
			}
			others++
			if !alike(q.Channels[i], c) {
				t.Fatalf("%+v, %+v: %+v", p, o, q)
			}
			for _, id := range c.Ledgers {
				if k := at(q, id); k < 0 || !alike(q.Ledgers[k], p.Ledgers[at(p, id)]) {
					t.Fatalf("%+v, %+v: %+v", p, o, q)
				}
			}
		}
	}
	if others < 3000 {
		t.Error(others)
	}
}

// P8.9: operations of unlike channels, and of two that are unlike, come to one plan in either order, unless both make ledgers.
func TestEitherOrder(t *testing.T) {
	d := rand.New(rand.NewPCG(8, 8))
	seen := 0
	for range 20000 {
		p := drawPlan(d)
		a, b := drawOp(d, p), drawOp(d, p)
		// Where there is one more version alone, who comes first has it.
		if a.Channel == 0 || b.Channel == 0 || a.Channel == b.Channel || a.Who == b.Who || a.Kind == api.OpLedger && b.Kind == api.OpLedger || p.Version == top-1 {
			continue
		}
		q, x := ops.Apply(p, a)
		q, y := ops.Apply(q, b)
		r, z := ops.Apply(p, b)
		r, w := ops.Apply(r, a)
		if !alike(q, r) || x != w || y != z {
			t.Fatalf("%+v, %+v, %+v: %+v, %+v", p, a, b, q, r)
		}
		if q.Version == p.Version+2 && x.Code == api.OK && y.Code == api.OK {
			seen++
		}
	}
	if seen < 300 {
		t.Error(seen)
	}
}

// P8.10: what is refused changes nothing but the Version and what is remembered.
func TestRefused(t *testing.T) {
	d := rand.New(rand.NewPCG(8, 9))
	seen := map[api.Errno]int{}
	for range 8000 {
		p := drawPlan(d)
		o := drawOp(d, p)
		if d.IntN(4) == 0 {
			o = altered(d, o)
		}
		q, came := ops.Apply(p, o)
		if came.Code == api.OK {
			continue
		}
		seen[came.Code]++
		if q.Version != p.Version {
			noted(o, came, nil)(&p)
		}
		if !alike(p, q) {
			t.Fatalf("%+v, %+v: %+v", p, o, q)
		}
	}
	for _, code := range []api.Errno{1, 3, 4, 5, 8, 9} {
		if seen[code] < 50 {
			t.Error(seen)
		}
	}
}
