package ops

import (
	"cmp"
	"slices"

	"scrivener/api"
	"scrivener/plan"
)

// work is a plan that is worked on, and the operation that is done to it, both in memory of their own.
type work struct {
	api.Plan
	op api.Op
}

// put tells a row that rises with x in it: in the place of the one that is told by the same, else where it belongs.
func put[T any, N cmp.Ordered](row []T, x T, by func(T) N) []T {
	i, ok := slices.BinarySearchFunc(row, by(x), func(y T, n N) int { return cmp.Compare(by(y), n) })
	if !ok {
		return slices.Insert(row, i, x)
	}
	row[i] = x
	return row
}

// known tells what is known to have come of the operation: it was done, or a later one was.
func (w *work) known() (api.Outcome, bool) {
	i := slices.IndexFunc(w.Past, func(x api.Past) bool { return x.Who == w.op.Who })
	if i < 0 {
		return api.Outcome{}, false
	}
	x := w.Past[i]
	switch cmp.Or(cmp.Compare(x.Inc, w.op.Inc), cmp.Compare(x.N, w.op.N)) {
	case 0:
		return x.Outcome, true
	case 1:
		return api.Outcome{Code: api.ErrOld}, true
	}
	return api.Outcome{}, false
}

// do does what the operation does to the plan, but for the Version and Past.
func (w *work) do() api.Outcome {
	switch k := kinds()[w.op.Kind]; {
	case k.has(hasChannel):
		if w.op.Channel > len(w.Channels) {
			return api.Outcome{Code: api.ErrNone}
		}
		fallthrough
	default:
		return k.does(w)
	}
}

// remember keeps what came of the operation, as its node's last one.
func (w *work) remember(came api.Outcome) {
	w.Version++
	x := api.Past{Who: w.op.Who, Inc: w.op.Inc, N: w.op.N, Outcome: came}
	w.Past = put(w.Past, x, func(x api.Past) int { return x.Who })
}

// channel tells the operation's channel, where it stands.
func (w *work) channel() *api.Channel { return &w.Channels[w.op.Channel-1] }

// held tells who has the channel, and by which epoch.
func (w *work) held(code api.Errno) api.Outcome {
	c := w.channel()
	return api.Outcome{Code: code, Epoch: c.Epoch, Owner: c.Owner}
}

// grab has the channel be the operation's node's, by another epoch.
func (w *work) grab() api.Outcome {
	c, o := w.channel(), w.op
	if c.Epoch != 0 && c.Owner != o.Who && o.Now < c.Renewed+api.Lease {
		return w.held(api.ErrState)
	}
	if c.Epoch == api.MaxCount {
		return api.Outcome{Code: api.ErrFull}
	}
	c.Epoch++
	c.Owner, c.Inc, c.Renewed = o.Who, o.Inc, o.Now
	return w.held(api.OK)
}

// renew has the channel be its owner's for longer.
func (w *work) renew() api.Outcome {
	c := w.channel()
	c.Renewed = max(c.Renewed, w.op.Now)
	return api.Outcome{}
}

// confirm tells the trim point to who still has the channel.
func (w *work) confirm() api.Outcome { return api.Outcome{At: w.channel().Trim} }

// set has a ledger be in the plan as it is now.
func (w *work) set(l api.Ledger) {
	w.Ledgers = put(w.Ledgers, l, func(l api.Ledger) uint64 { return l.Id })
}

// begin has a new ledger be the channel's last one.
func (w *work) begin() api.Outcome {
	c, o := w.channel(), w.op
	if _, ok := plan.Open(w.Plan, o.Channel); ok || c.Epoch == 0 {
		return api.Outcome{Code: api.ErrState}
	}
	if len(c.Ledgers) == api.MaxLedgers || w.Next > api.MaxCount ||
		plan.End(w.Plan, o.Channel)+2*api.MaxEntries > api.MaxCount {
		return api.Outcome{Code: api.ErrFull}
	}
	l := api.Ledger{Id: w.Next, W: o.W, A: o.A, Frags: o.Frags}
	w.set(l)
	c.Ledgers = append(c.Ledgers, l.Id)
	w.Next++
	return api.Outcome{Ledger: l.Id}
}

// written tells the ledger that the operation names, if it is its channel's last one, and open.
func (w *work) written() (api.Ledger, bool) {
	l, ok := plan.Open(w.Plan, w.op.Channel)
	if !ok || l.Id != w.op.Ledger {
		return api.Ledger{}, false
	}
	return l, true
}

// mayFrag tells whether a fragment may be for w.
func mayFrag(w int, f api.Frag) bool {
	// A row must begin with entry 1, while one fragment may begin with any.
	return within(f.First, 1, api.MaxEntries+1) && plan.MayFrags(w, api.Frag{First: 1, Bookies: f.Bookies})
}

// change has the entries of the ledger stand on other places, from one on.
func (w *work) change() api.Outcome {
	l, ok := w.written()
	f := w.op.Frags[0]
	if !ok || !mayFrag(l.W, f) {
		return api.Outcome{Code: api.ErrState}
	}
	keep := len(l.Frags)
	switch last := l.Frags[keep-1]; {
	case f.First < last.First:
		return api.Outcome{Code: api.ErrState}
	case f.First == last.First:
		keep--
	}
	if keep == api.MaxFrags {
		return api.Outcome{Code: api.ErrFull}
	}
	l.Frags = append(l.Frags[:keep], f)
	w.set(l)
	return api.Outcome{}
}

// end closes the ledger.
func (w *work) end() api.Outcome {
	o := w.op
	l, ok := w.written()
	if !ok || !plan.MayFrags(l.W, o.Frags...) || o.At > api.MaxEntries {
		return api.Outcome{Code: api.ErrState}
	}
	// A plan with its trim point beyond the end, or too great an end, may not be.
	end := plan.End(w.Plan, o.Channel) + o.At
	if !within(end, w.channel().Trim, api.MaxCount-api.MaxEntries) {
		return api.Outcome{Code: api.ErrState}
	}
	l.Frags, l.Closed, l.Last = o.Frags, 1, o.At
	w.set(l)
	return api.Outcome{}
}

// trim has the trim point be no lesser.
func (w *work) trim() api.Outcome {
	c, o := w.channel(), w.op
	most := plan.End(w.Plan, o.Channel)
	if _, ok := plan.Open(w.Plan, o.Channel); ok {
		most += api.MaxEntries
	}
	if o.At > most {
		return api.Outcome{Code: api.ErrArg}
	}
	c.Trim = max(c.Trim, o.At)
	return api.Outcome{At: c.Trim}
}

// gone tells how many ledgers of the channel, from its first one on, are closed with all their entries below the trim point, and the offset behind them.
func (w *work) gone() (int, uint64) {
	c := w.channel()
	first := c.First
	for i, id := range c.Ledgers {
		l, _ := plan.Find(w.Plan, id)
		if l.Closed == 0 || first+l.Last > c.Trim {
			return i, first
		}
		first += l.Last
	}
	return len(c.Ledgers), first
}

// forget has the ledgers that may go be no more. Who asks for that names the first one that stays, as its marks are those of just the ledgers that go.
func (w *work) forget() api.Outcome {
	c, o := w.channel(), w.op
	n, first := w.gone()
	var stays uint64
	if n < len(c.Ledgers) {
		stays = c.Ledgers[n]
	}
	if o.Ledger != stays || slices.ContainsFunc(o.Seen, func(m api.Mark) bool { return m.Offset >= first }) {
		return api.Outcome{Code: api.ErrState}
	}
	w.Ledgers = slices.DeleteFunc(w.Ledgers, func(l api.Ledger) bool { return slices.Contains(c.Ledgers[:n], l.Id) })
	c.Ledgers = slices.Delete(c.Ledgers, 0, n)
	c.First, c.Seen = first, o.Seen
	return api.Outcome{At: first}
}

// at tells where the cursor of the operation's subscription is.
func (w *work) at() uint64 {
	for _, x := range w.channel().Cursors {
		if x.Sub == w.op.Sub {
			return x.At
		}
	}
	return 0
}

// point has the cursor be there.
func (w *work) point(at uint64) api.Outcome {
	c := w.channel()
	c.Cursors = put(c.Cursors, api.Cursor{Sub: w.op.Sub, At: at}, func(x api.Cursor) int { return x.Sub })
	return api.Outcome{At: at}
}

// ack has the cursor be no lesser.
func (w *work) ack() api.Outcome { return w.point(max(w.at(), w.op.At)) }

// seek has the cursor be there.
func (w *work) seek() api.Outcome { return w.point(w.op.At) }

// cursor tells where the cursor is.
func (w *work) cursor() api.Outcome { return api.Outcome{At: w.at()} }

// replace has another place stand where one stood in a closed ledger.
func (w *work) replace() api.Outcome {
	o := w.op
	l, ok := plan.Find(w.Plan, o.Ledger)
	has := func(f api.Frag) bool { return slices.Contains(f.Bookies, o.From) }
	other := func(p api.Place) bool { return p.Node == o.To.Node && p != o.From }
	against := func(f api.Frag) bool { return has(f) && slices.ContainsFunc(f.Bookies, other) }
	if !ok || l.Closed == 0 || !slices.ContainsFunc(l.Frags, has) || slices.ContainsFunc(l.Frags, against) {
		return api.Outcome{Code: api.ErrState}
	}
	for _, f := range l.Frags {
		if i := slices.Index(f.Bookies, o.From); i >= 0 {
			f.Bookies[i] = o.To
		}
	}
	w.set(l)
	return api.Outcome{}
}
