package copier

import (
	"iter"
	"slices"

	"scrivener/api"
	"scrivener/plan"
	"scrivener/stripe"
)

// isClosed tells whether a ledger is written no more.
func isClosed(l api.Ledger) bool { return l.Closed == 1 }

// mayCopy tells whether a ledger is one whose places' entries are known.
func mayCopy(l api.Ledger) bool { return plan.MayLedger(l) && isClosed(l) }

// serials is the least and the greatest serial of a node's disks.
type serials struct{ least, most uint64 }

// goneBy tells a function that tells whether a place is gone, as its node is known by another disk.
func goneBy(known []api.Place) func(api.Place) bool {
	disks := map[int]serials{}
	for _, p := range known {
		s, ok := disks[p.Node]
		if !ok {
			s = serials{p.Serial, p.Serial}
		}
		disks[p.Node] = serials{min(s.least, p.Serial), max(s.most, p.Serial)}
	}
	return func(p api.Place) bool {
		s, ok := disks[p.Node]
		return ok && s != serials{p.Serial, p.Serial}
	}
}

// fitsIn tells a function that tells whether a place can stand where one of a ledger does: no fragment may have two places of a node.
func fitsIn(l api.Ledger, from api.Place) func(to api.Place) bool {
	stood := false
	others := map[int]int{} // how many of a node stand beside it
	for _, f := range l.Frags {
		if !slices.Contains(f.Bookies, from) {
			continue
		}
		stood = true
		for _, p := range f.Bookies {
			if p != from {
				others[p.Node]++
			}
		}
	}
	return func(to api.Place) bool { return stood && to != from && others[to.Node] == 0 }
}

// places goes over a ledger's places, fragment by fragment.
func places(l api.Ledger) iter.Seq[api.Place] {
	return func(yield func(api.Place) bool) {
		for _, f := range l.Frags {
			for _, p := range f.Bookies {
				if !yield(p) {
					return
				}
			}
		}
	}
}

// replaces tells the first place of a ledger that is gone and can be replaced by a good one, and the first one of these.
func replaces(l api.Ledger, gone func(api.Place) bool, good []api.Place) (from, to api.Place, ok bool) {
	for p := range places(l) {
		if !gone(p) {
			continue
		}
		if i := slices.IndexFunc(good, fitsIn(l, p)); i >= 0 {
			return p, good[i], true
		}
	}
	return api.Place{}, api.Place{}, false
}

// entries goes over the entries that a place had of a ledger.
func entries(l api.Ledger, from api.Place) iter.Seq[uint64] {
	return func(yield func(uint64) bool) {
		if !mayCopy(l) {
			return
		}
		for n := uint64(1); n <= l.Last; n++ {
			if slices.Contains(stripe.Set(l.Frags, l.W, n), from) && !yield(n) {
				return
			}
		}
	}
}
