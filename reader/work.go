package reader

import (
	"bytes"
	"slices"

	"scrivener/api"
	"scrivener/plan"
	"scrivener/stripe"
)

// round is a row of places that comes round: behind the last one is the first one.
type round []api.Place

// at tells the place of a number; false: there is none.
func (r round) at(i int) (api.Place, bool) {
	if i < 0 || i >= len(r) {
		return api.Place{}, false
	}
	return r[i], true
}

// behind tells the number behind a number, as that of a place; what is below 0 counts as 0, and so does what comes behind the greatest int, as Go has it be the least one. The row has to have a place.
func (r round) behind(i int) int { return max(i+1, 0) % len(r) }

// work is a fetch that is worked on at a tick, in memory of its own, with what it asks of bookies.
type work struct {
	api.Fetch
	now  uint64
	reqs []api.Req
}

// asked tells the place that is asked; false: there is none.
func (w *work) asked() (api.Place, bool) { return round(w.Set).at(w.At) }

// ask asks the place whose turn it is.
func (w *work) ask() {
	if p, ok := w.asked(); ok {
		w.Since = w.now
		w.reqs = append(w.reqs, api.Req{To: p, Kind: api.ReqGet, Ledger: w.Ledger, N: w.N, Epoch: w.Tag})
	}
}

// begin asks the first one of those places.
func (w *work) begin(set []api.Place) {
	w.Set, w.At = set, 0
	w.ask()
}

// pass goes on to the place behind the one that is asked, if there are places.
func (w *work) pass() {
	if len(w.Set) > 0 {
		w.At = round(w.Set).behind(w.At)
		w.ask()
	}
}

// answers tells whether an answer is one to what was asked, of whichever place.
func (w *work) answers(r api.Resp) bool {
	return r.Kind == api.ReqGet && r.Ledger == w.Ledger && r.N == w.N && r.Epoch == w.Tag
}

// take does what an answer comes to.
func (w *work) take(r api.Resp) {
	if !w.answers(r) {
		return
	}
	switch r.Code {
	case api.RespOk:
		w.found(r)
	case api.RespNone, api.RespFull, api.RespFenced:
		w.refused(func(asked api.Place) bool { return asked == r.From })
	case api.RespStrange:
		// From is the disk that the node has now, not the one that was asked.
		w.refused(func(asked api.Place) bool { return asked.Node == r.From.Node })
	}
}

// found has the entry be the one that was answered. Each place of the set is heard, as those asked earlier may answer late.
func (w *work) found(r api.Resp) {
	if slices.Contains(w.Set, r.From) {
		w.Done, w.Body = 1, bytes.Clone(r.Body)
	}
}

// refused goes on, if the place that is asked is the one that does not tell the entry.
func (w *work) refused(is func(asked api.Place) bool) {
	if p, ok := w.asked(); ok && is(p) {
		w.pass()
	}
}

// tick goes on, if the place that is asked has not answered for too long; a tick that is still to come was just now.
func (w *work) tick() {
	if w.now-min(w.Since, w.now) >= api.Again {
		w.pass()
	}
}

// move begins anew, if by the ledger as it is now the entry stands on other places.
func (w *work) move(l api.Ledger) {
	if l.Id != w.Ledger || !plan.MayLedger(l) {
		return
	}
	if set := stripe.Set(l.Frags, l.W, w.N); !slices.Equal(set, w.Set) {
		w.begin(set)
	}
}
