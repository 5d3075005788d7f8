package plan

import (
	"cmp"
	"slices"

	"scrivener/api"
)

// within tells whether x is from least to most.
func within[N cmp.Ordered](x, least, most N) bool { return x >= least && x <= most }

// isCount tells whether a number is one that ids, epochs, lives and disks may have.
func isCount(n uint64) bool { return within(n, 1, api.MaxCount) }

// isNode tells whether a node may have that number.
func isNode(n int) bool { return within(n, 1, api.MaxNodes) }

// all tells whether each of a row is as it must be.
func all[T any](row []T, may func(T) bool) bool {
	return !slices.ContainsFunc(row, func(x T) bool { return !may(x) })
}

// rises tells whether each of a row is above the one ahead of it, by what it is told by.
func rises[T any, N cmp.Ordered](row []T, by func(T) N) bool {
	for i := 1; i < len(row); i++ {
		if by(row[i-1]) >= by(row[i]) {
			return false
		}
	}
	return true
}

// apart tells whether no two of a row are told by the same.
func apart[T any, N cmp.Ordered](row []T, by func(T) N) bool {
	var told []N
	for _, x := range row {
		told = append(told, by(x))
	}
	slices.Sort(told)
	return rises(told, func(n N) N { return n })
}

// mayPlace tells whether a place may be.
func mayPlace(p api.Place) bool { return isNode(p.Node) && isCount(p.Serial) }

// mayFrag tells whether a fragment may be for w.
func mayFrag(w int, f api.Frag) bool {
	return within(f.First, 1, api.MaxEntries+1) &&
		within(len(f.Bookies), w, api.MaxBookies) &&
		all(f.Bookies, mayPlace) &&
		apart(f.Bookies, func(p api.Place) int { return p.Node })
}

// MayFrags tells whether fragments may be for w.
func MayFrags(w int, l ...api.Frag) bool {
	return within(len(l), 1, api.MaxFrags) && l[0].First == 1 &&
		all(l, func(f api.Frag) bool { return mayFrag(w, f) }) &&
		rises(l, func(f api.Frag) uint64 { return f.First })
}

// MayLedger tells whether a ledger may be.
func MayLedger(l api.Ledger) bool {
	return isCount(l.Id) &&
		within(l.W, 1, api.MaxBookies) && within(l.A, 1, l.W) && MayFrags(l.W, l.Frags...) &&
		within(l.Closed, 0, 1) && l.Last <= api.MaxEntries && (isClosed(l) || l.Last == 0)
}

// mayOwner tells whether a channel may have that owner, or none.
func mayOwner(c api.Channel) bool {
	if c.Epoch == 0 {
		return c.Owner == 0 && c.Inc == 0 && len(c.Ledgers) == 0
	}
	return isCount(c.Epoch) && isNode(c.Owner) && isCount(c.Inc)
}

// maySeen tells whether a channel that begins at first may have those marks.
func maySeen(first uint64, seen []api.Mark) bool {
	return len(seen) <= api.MaxMarks &&
		all(seen, func(m api.Mark) bool { return isNode(m.Producer) && isCount(m.Seq) && m.Offset < first }) &&
		rises(seen, func(m api.Mark) int { return m.Producer }) &&
		apart(seen, func(m api.Mark) uint64 { return m.Offset })
}

// mayCursor tells whether a cursor may be.
func mayCursor(c api.Cursor) bool { return within(c.Sub, 1, api.MaxSubs) && c.At <= api.MaxCount }

// mayChannel tells whether a channel may be, but for what hangs on its ledgers as well.
func mayChannel(c api.Channel) bool {
	return mayOwner(c) && c.Renewed <= api.MaxCount &&
		len(c.Ledgers) <= api.MaxLedgers && rises(c.Ledgers, func(id uint64) uint64 { return id }) &&
		maySeen(c.First, c.Seen) &&
		all(c.Cursors, mayCursor) && rises(c.Cursors, func(x api.Cursor) int { return x.Sub })
}

// mayRun tells whether a channel's ledgers may stand one behind the other, and its offsets be where they are.
func mayRun(p api.Plan, c api.Channel) bool {
	ahead := c.Ledgers[:max(len(c.Ledgers)-1, 0)]
	closed := func(id uint64) bool {
		l, ok := ledger(p, id)
		return ok && isClosed(l)
	}
	most := closedEnd(p, c)
	// An end that is too great might come round with what is added to it.
	if !all(ahead, closed) || most > api.MaxCount-api.MaxEntries {
		return false
	}
	if _, ok := lastOpen(p, c); ok {
		most += api.MaxEntries
	}
	return within(c.Trim, c.First, most)
}

// mayLedgers tells whether a plan's ledgers may be, and are those that its channels name, each once.
func mayLedgers(p api.Plan) bool {
	var named []uint64
	for _, c := range p.Channels {
		named = append(named, c.Ledgers...)
	}
	slices.Sort(named)
	is := func(l api.Ledger, id uint64) bool { return l.Id == id }
	return slices.EqualFunc(p.Ledgers, named, is) &&
		all(p.Ledgers, func(l api.Ledger) bool { return MayLedger(l) && l.Id < p.Next }) &&
		rises(p.Ledgers, func(l api.Ledger) uint64 { return l.Id })
}

// mayPast tells whether somebody may have done that, and that may have come of it.
func mayPast(p api.Past) bool {
	o := p.Outcome
	return isNode(p.Who) && isCount(p.Inc) && isCount(p.N) &&
		within(o.Code, api.OK, api.ErrOld) && within(o.Owner, 0, api.MaxNodes) &&
		max(o.Epoch, o.At, o.Ledger) <= api.MaxCount
}

// May tells whether a plan may be.
func May(p api.Plan) bool {
	return p.Version <= api.MaxCount && within(p.Next, 1, api.MaxCount+1) &&
		within(len(p.Channels), 1, api.MaxChannels) && all(p.Channels, mayChannel) &&
		mayLedgers(p) && all(p.Channels, func(c api.Channel) bool { return mayRun(p, c) }) &&
		all(p.Past, mayPast) && rises(p.Past, func(x api.Past) int { return x.Who })
}
