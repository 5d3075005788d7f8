package copier

import (
	"bytes"
	"slices"

	"scrivener/api"
	"scrivener/stripe"
)

// The phases of a copier.
const (
	seeks  = 1 + iota // the others are asked for an entry
	copies            // the new place is asked to have it
	copied            // it has all
	ended             // it is given up
)

// work is a copier that is worked on at a tick, in memory of its own, with what it asks of bookies.
type work struct {
	api.Copier
	now  uint64
	reqs []api.Req
}

// among tells a function that tells whether a place is one of those.
func among(those []api.Place) func(api.Place) bool {
	times := map[api.Place]int{}
	for _, p := range those {
		times[p]++
	}
	return func(p api.Place) bool { return times[p] > 0 }
}

// sources tells the places that have the entry, too, if none of them has lost it.
func (w *work) sources() []api.Place {
	lost := func(p api.Place) bool { return p == w.From }
	return slices.DeleteFunc(stripe.Set(w.Ledger.Frags, w.Ledger.W, w.N), lost)
}

// hopes tells the sources that have not said that they have it not.
func (w *work) hopes() []api.Place {
	return slices.DeleteFunc(w.sources(), among(w.None))
}

// req tells what a place is asked in this phase.
func (w *work) req(to api.Place) api.Req {
	q := api.Req{To: to, Kind: api.ReqGet, Ledger: w.Ledger.Id, N: w.N}
	if w.Phase == copies {
		// The epoch 0 is below any fence; but a copy is taken, whatever was fenced.
		q.Kind, q.Copy, q.Sure, q.Body = api.ReqAdd, 1, w.Ledger.Last, bytes.Clone(w.Body)
	}
	return q
}

// ask asks for the entry, or to have it.
func (w *work) ask() {
	to := []api.Place{w.To}
	switch w.Phase {
	case seeks:
		if to = w.hopes(); len(to) == 0 {
			// One of them may have got it since.
			w.None = nil
			to = w.sources()
		}
		fallthrough
	case copies:
		w.Since = w.now
		for _, p := range to {
			w.reqs = append(w.reqs, w.req(p))
		}
	}
}

// next tells the number of the next entry that the lost place had; 0: there is none.
func (w *work) next() uint64 {
	for n := range entries(w.Ledger, w.From) {
		if n > w.N {
			return n
		}
	}
	return 0
}

// pass goes on to the next entry, if there is one.
func (w *work) pass() {
	w.N, w.None, w.Body = w.next(), nil, nil
	if w.N == 0 {
		w.Phase = copied
		return
	}
	w.Phase, w.Born = seeks, w.now
	w.ask()
}

// take does what an answer comes to.
func (w *work) take(r api.Resp) {
	if r.Ledger != w.Ledger.Id || r.N != w.N || r.Epoch != 0 {
		return
	}
	switch {
	case w.Phase == seeks && r.Kind == api.ReqGet && slices.Contains(w.sources(), r.From):
		w.sought(r)
	case w.Phase == copies && r.Kind == api.ReqAdd:
		w.added(r)
	}
}

// sought hears whether a source has the entry.
func (w *work) sought(r api.Resp) {
	switch r.Code {
	case api.RespOk:
		w.Phase, w.Body = copies, bytes.Clone(r.Body)
		w.ask()
	case api.RespNone:
		if !slices.Contains(w.None, r.From) {
			w.None = append(w.None, r.From)
		}
	}
}

// added hears whether the new place has taken the entry.
func (w *work) added(r api.Resp) {
	switch {
	case r.Code == api.RespOk && r.From == w.To:
		w.pass()
	case r.Code == api.RespFull && r.From == w.To:
		w.Phase = ended
	case r.Code == api.RespStrange && r.From.Node == w.To.Node:
		// It is the disk that the node has now: the one that was meant is lost.
		w.Phase = ended
	}
}

// since tells how many ticks ago a tick was; one that is still to come was just now.
func (w *work) since(tick uint64) uint64 { return w.now - min(tick, w.now) }

// tick gives up an entry that has taken too long, or asks anew what was asked long ago.
func (w *work) tick() {
	switch {
	case w.since(w.Born) >= api.Patience:
		w.Phase = ended
	case w.since(w.Since) >= api.Again:
		w.ask()
	}
}
