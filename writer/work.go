package writer

import (
	"bytes"
	"slices"

	"scrivener/api"
	"scrivener/stripe"
)

// work is a writer that is worked on at a tick, in memory of its own, with what it asks of bookies.
type work struct {
	api.Writer
	now  uint64
	reqs []api.Req
}

// waits tells the entries that wait as a queue: it is the writer's row itself.
func (w *work) waits() *queue[api.Waiting] { return (*queue[api.Waiting])(&w.Waits) }

// fenced tells whether a bookie has refused the writer's epoch.
func (w *work) fenced() bool { return w.Fenced == 1 }

// changes tells whether the plan was asked for a change.
func (w *work) changes() bool { return w.Change.First != 0 }

// last tells the last fragment as it stands in the ledger; the zero one, if there is none.
func (w *work) last() api.Frag {
	if n := len(w.Ledger.Frags); n > 0 {
		return w.Ledger.Frags[n-1]
	}
	return api.Frag{}
}

// count tells how often each place stands in a row.
func count(row []api.Place) map[api.Place]int {
	times := map[api.Place]int{}
	for _, p := range row {
		times[p]++
	}
	return times
}

// among tells a function that tells whether a place is one of those.
func among(those ...api.Place) func(api.Place) bool {
	times := count(those)
	return func(p api.Place) bool { return times[p] > 0 }
}

// set tells the write set of an entry.
func (w *work) set(x *api.Waiting) []api.Place {
	return stripe.Set(w.Ledger.Frags, w.Ledger.W, x.N)
}

// lacks tells the places of an entry's write set that do not have it.
func (w *work) lacks(x *api.Waiting) []api.Place {
	return slices.DeleteFunc(w.set(x), among(x.From...))
}

// good tells whether enough places have an entry.
func (w *work) good(x *api.Waiting) bool {
	return stripe.Acked(w.set(x), w.Ledger.A, x.From...)
}

// held tells whether an entry may come to stand elsewhere, by the change that is asked for.
func (w *work) held(x *api.Waiting) bool { return w.changes() && x.N >= w.Change.First }

// settle is sure of more, as far as may be.
func (w *work) settle() {
	waits := w.waits()
	for x := waits.first(); x != nil && w.good(x) && !w.held(x); x = waits.first() {
		w.Sure = x.N
		waits.goes()
	}
}

// send asks all to have an entry that should have it and do not.
func (w *work) send(x *api.Waiting) {
	for _, p := range w.lacks(x) {
		w.reqs = append(w.reqs, api.Req{
			To: p, Kind: api.ReqAdd, Ledger: w.Ledger.Id, N: x.N, Epoch: w.Epoch, Sure: w.Sure, Body: bytes.Clone(x.Body),
		})
	}
	x.Since = w.now
}

// begin sends one more entry.
func (w *work) begin(body []byte) {
	x := w.waits().come(api.Waiting{N: w.Next, Body: body, Born: w.now})
	w.Next++
	w.send(x)
}

// take does what the answer to an add comes to.
func (w *work) take(r api.Resp) {
	has := func(f api.Frag) bool { return slices.Contains(f.Bookies, r.From) }
	ours := slices.ContainsFunc(w.Ledger.Frags, has)
	switch {
	case r.Code == api.RespOk && ours:
		w.added(r)
	case r.Code == api.RespFenced && ours:
		w.Fenced = 1
	case r.Code == api.RespFull:
		w.spoiler()(r.From)
	case r.Code == api.RespStrange:
		w.estrange(r.From.Node)
	}
}

// added has a place be among those who have an entry that waits.
func (w *work) added(r api.Resp) {
	x := w.waits().find(func(x *api.Waiting) bool { return x.N == r.N })
	if x == nil {
		return
	}
	if !slices.Contains(x.From, r.From) {
		x.From = append(x.From, r.From)
	}
	w.settle()
}

// spoiler tells a function that has a place be bad, if it is one of the last fragment, and is not bad already.
func (w *work) spoiler() func(api.Place) {
	last, bad := count(w.last().Bookies), count(w.Bad)
	return func(p api.Place) {
		if last[p] > 0 && bad[p] == 0 {
			bad[p]++
			w.Bad = append(w.Bad, p)
		}
	}
}

// estrange has what the last fragment has of a node be bad: it is From itself, or an earlier disk, which is lost.
func (w *work) estrange(node int) {
	spoil := w.spoiler()
	for _, p := range w.last().Bookies {
		if p.Node == node {
			spoil(p)
		}
	}
}

// since tells how many ticks ago a tick was; one that is still to come was just now.
func (w *work) since(tick uint64) uint64 { return w.now - min(tick, w.now) }

// tick has those be bad that lack what was sent too long ago, and sends anew what was sent long ago.
func (w *work) tick() {
	spoil := w.spoiler()
	w.waits().each(func(x *api.Waiting) {
		if w.since(x.Born) >= api.Patience {
			for _, p := range w.lacks(x) {
				spoil(p)
			}
		}
		if w.since(x.Since) >= api.Again {
			w.send(x)
		}
	})
}

// ask asks for another fragment than the last one, for what is behind the sure entries; false: there is none, and nothing is bad any more.
func (w *work) ask(e int, known []api.Place) (api.Frag, bool) {
	last := w.last()
	fresh, ok := stripe.Renew(last, w.Ledger.W, e, w.Bad, known)
	isFull := len(w.Ledger.Frags) >= api.MaxFrags
	// That Sure and one is above First is told without reckoning it, as it might be beyond a number.
	if !ok || isFull && w.Sure >= last.First {
		w.Bad = nil
		return api.Frag{}, false
	}
	fresh.First = w.Sure + 1
	w.Change = ownFrag(fresh)
	return fresh, true
}

// put tells a row of fragments with a change as the last one: where one has its First it stands there, else behind all.
func put(row []api.Frag, change api.Frag) []api.Frag {
	for i, f := range slices.Backward(row) {
		if f.First == change.First {
			return append(row[:i], change)
		}
	}
	return append(row, change)
}

// changed takes the change, or leaves it, and begins anew with all entries that wait.
func (w *work) changed(ok bool) {
	if ok {
		w.Ledger.Frags = put(w.Ledger.Frags, w.Change)
	}
	w.Change, w.Bad = api.Frag{}, nil
	w.waits().each(func(x *api.Waiting) { x.Born = w.now })
	w.settle()
	w.waits().each(w.send)
}
