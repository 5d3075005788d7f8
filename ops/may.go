package ops

import (
	"cmp"
	"slices"

	"scrivener/api"
	"scrivener/plan"
)

// within tells whether x is from least to most.
func within[N cmp.Ordered](x, least, most N) bool { return x >= least && x <= most }

// isCount tells whether a number is one that lives, operations and messages may have.
func isCount(n uint64) bool { return within(n, 1, api.MaxCount) }

// isNode tells whether a node may have that number.
func isNode(n int) bool { return within(n, 1, api.MaxNodes) }

// May tells whether an operation may be.
func May(o api.Op) bool {
	if !within(o.Kind, api.OpGrab, api.OpReplace) {
		return false
	}
	k := kinds()[o.Kind]
	return isNode(o.Who) && isCount(o.Inc) && isCount(o.N) &&
		max(o.Epoch, o.Ledger, o.At, o.Now) <= api.MaxCount && !slices.ContainsFunc(o.Frags, isWide) &&
		given(o)&^k.names == 0 &&
		(!k.has(hasChannel) || within(o.Channel, 1, api.MaxChannels)) &&
		(!k.has(hasSub) || within(o.Sub, 1, api.MaxSubs)) &&
		k.may(o)
}

// isWide tells whether a fragment has a number that is greater than there may be.
func isWide(f api.Frag) bool {
	return f.First > api.MaxCount ||
		slices.ContainsFunc(f.Bookies, func(p api.Place) bool { return p.Serial > api.MaxCount })
}

// given tells what of an operation is not zero, or empty, by its bits.
func given(o api.Op) int {
	bits := 0
	for _, x := range [...]struct {
		bit int
		is  bool
	}{
		{hasChannel, o.Channel != 0},
		{hasEpoch, o.Epoch != 0},
		{hasLedger, o.Ledger != 0},
		{hasAt, o.At != 0},
		{hasNow, o.Now != 0},
		{hasSub, o.Sub != 0},
		{hasCopies, o.W != 0 || o.A != 0},
		{hasFrags, len(o.Frags) > 0},
		{hasSeen, len(o.Seen) > 0},
		{hasPlaces, o.From != api.Place{} || o.To != api.Place{}},
	} {
		if x.is {
			bits |= x.bit
		}
	}
	return bits
}

// mayAny asks nothing more of an operation.
func mayAny(o api.Op) bool { return true }

// mayBegin tells whether a ledger may begin with that fragment.
func mayBegin(o api.Op) bool {
	return len(o.Frags) == 1 && plan.MayFrags(o.W, o.Frags...) && within(o.A, 1, o.W)
}

// mayChange tells whether there is one fragment; whether it may be hangs on the ledger.
func mayChange(o api.Op) bool { return len(o.Frags) == 1 }

// mayEnd tells whether there are fragments; whether they may be hangs on the ledger.
func mayEnd(o api.Op) bool { return len(o.Frags) > 0 }

// mayForget tells whether a channel may have those marks, wherever it begins.
func mayForget(o api.Op) bool {
	if len(o.Seen) > api.MaxMarks {
		return false
	}
	for i, m := range o.Seen {
		against := func(x api.Mark) bool { return x.Producer >= m.Producer || x.Offset == m.Offset }
		if !isNode(m.Producer) || !isCount(m.Seq) || slices.ContainsFunc(o.Seen[:i], against) {
			return false
		}
	}
	return true
}

// mayReplace tells whether both places may be, and are unlike.
func mayReplace(o api.Op) bool { return mayPlace(o.From) && mayPlace(o.To) && o.From != o.To }

// mayPlace tells whether a place may be: it may just if a fragment of it alone may.
func mayPlace(p api.Place) bool {
	return plan.MayFrags(1, api.Frag{First: 1, Bookies: []api.Place{p}})
}
