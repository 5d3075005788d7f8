package recovery

import (
	"bytes"
	"slices"

	"scrivener/api"
	"scrivener/stripe"
)

// The phases of a recovery.
const (
	fences = 1 + iota // places are asked to refuse lesser epochs
	seeks             // those who do are asked for an entry
	copies            // places are asked to have the entry
	ended
)

// work is a recovery that is worked on at a tick, in memory of its own, with what it asks of bookies.
type work struct {
	api.Recovery
	now  uint64
	reqs []api.Req
}

// count tells how often each of those places stands there.
func count(those ...api.Place) map[api.Place]int {
	times := map[api.Place]int{}
	for _, p := range those {
		times[p]++
	}
	return times
}

// among tells a function that tells whether a place is one of those.
func among(those ...api.Place) func(api.Place) bool {
	times := count(those...)
	return func(p api.Place) bool { return times[p] > 0 }
}

// last tells the plan's last fragment as it stands in the ledger; the zero one, if there is none.
func (w *work) last() api.Frag {
	if n := len(w.Ledger.Frags); n > 0 {
		return w.Ledger.Frags[n-1]
	}
	return api.Frag{}
}

// toRead tells the places on which the entry stands by the plan, if it is there.
func (w *work) toRead() []api.Place { return stripe.Set(w.Ledger.Frags, w.Ledger.W, w.N) }

// toWrite tells the places on which the entry is to stand.
func (w *work) toWrite() []api.Place { return stripe.Set(w.Frags, w.Ledger.W, w.N) }

// lacks tells the places on which the entry is to stand, and does not as yet.
func (w *work) lacks() []api.Place {
	return slices.DeleteFunc(w.toWrite(), among(w.Has...))
}

// open tells whose answer is still to come in this phase.
func (w *work) open() []api.Place {
	heard, none := among(w.Heard...), among(w.None...)
	switch w.Phase {
	case fences:
		return slices.DeleteFunc(slices.Clone(w.last().Bookies), heard)
	case seeks:
		return slices.DeleteFunc(w.toRead(), func(p api.Place) bool { return !heard(p) || none(p) })
	case copies:
		return w.lacks()
	}
	return nil
}

// req tells what a place is asked in this phase.
func (w *work) req(to api.Place) api.Req {
	q := api.Req{To: to, Ledger: w.Ledger.Id, Epoch: w.Epoch}
	switch w.Phase {
	case fences:
		q.Kind = api.ReqFence
	case seeks:
		q.Kind, q.N = api.ReqGet, w.N
	case copies:
		q.Kind, q.N, q.Sure, q.Body = api.ReqAdd, w.N, w.Sure, bytes.Clone(w.Body)
	}
	return q
}

// send asks places what is asked in this phase.
func (w *work) send(to ...api.Place) {
	for _, p := range to {
		w.reqs = append(w.reqs, w.req(p))
	}
}

// ask asks all whose answer is still to come.
func (w *work) ask() {
	w.Since = w.now
	w.send(w.open()...)
}

// turn has another phase, or the same one anew, begin.
func (w *work) turn(phase int) { w.Phase, w.Born = phase, w.now }

// begin has a phase begin in which something is asked.
func (w *work) begin(phase int) {
	w.turn(phase)
	w.ask()
}

// pass goes on behind an entry: to the next one, as far as there may be one. (That is not reckoned ahead of being looked at, as it might be beyond a number.)
func (w *work) pass(n uint64) {
	w.N = n + 1
	w.None, w.Has, w.Body, w.Bad = nil, nil, nil, nil
	if n >= api.MaxEntries {
		w.turn(ended)
	} else {
		w.begin(seeks)
	}
}

// write has the places on which the entry is to stand have it.
func (w *work) write() {
	w.begin(copies)
	w.settle()
}

// settle goes on behind the entry, if enough places have it.
func (w *work) settle() {
	if stripe.Acked(w.toWrite(), w.Ledger.A, w.Has...) {
		w.pass(w.N)
	}
}

// take does what an answer comes to.
func (w *work) take(x api.Resp) {
	of := func(kind, phase int) bool { return x.Kind == kind && x.N == w.N && w.Phase == phase }
	switch {
	case x.Kind == api.ReqFence && x.Code == api.RespOk:
		w.fenced(x)
	case of(api.ReqGet, seeks):
		w.sought(x)
	case of(api.ReqGet, copies) && x.Code == api.RespOk && bytes.Equal(x.Body, w.Body):
		w.gain(x.From)
	case of(api.ReqAdd, copies):
		w.copied(x)
	}
}

// fenced hears a place that refuses lesser epochs from now on, if it is the first time.
func (w *work) fenced(x api.Resp) {
	last := w.last()
	if !slices.Contains(last.Bookies, x.From) || slices.Contains(w.Heard, x.From) {
		return
	}
	w.Heard = append(w.Heard, x.From)
	w.Sure = min(max(w.Sure, x.Sure), api.MaxEntries)
	switch w.Phase {
	case fences:
		if stripe.Covered(last, w.Ledger.W, w.Ledger.A, w.Heard...) {
			w.pass(max(w.Sure+1, last.First) - 1)
		}
	case seeks:
		if slices.Contains(w.toRead(), x.From) {
			w.send(x.From)
		}
	}
}

// sought hears whether a place has the entry.
func (w *work) sought(x api.Resp) {
	set := w.toRead()
	if !slices.Contains(set, x.From) {
		return
	}
	switch x.Code {
	case api.RespOk:
		w.Has, w.Body = []api.Place{x.From}, bytes.Clone(x.Body)
		w.write()
	case api.RespNone:
		w.lacking(set, x.From)
	}
}

// lacking hears that a place of the set has not the entry, which says something if it can have got none since: if it refuses lesser epochs.
func (w *work) lacking(set []api.Place, p api.Place) {
	if !slices.Contains(w.Heard, p) || slices.Contains(w.None, p) {
		return
	}
	w.None = append(w.None, p)
	if stripe.Missing(set, w.Ledger.W, w.Ledger.A, w.None...) {
		w.turn(ended)
	}
}

// copied hears whether a place has taken the entry.
func (w *work) copied(x api.Resp) {
	switch x.Code {
	case api.RespOk:
		w.gain(x.From)
	case api.RespFull:
		w.spoil(func(p api.Place) bool { return p == x.From })
	case api.RespStrange:
		// It is From itself, or an earlier disk of that node, which is lost.
		w.spoil(func(p api.Place) bool { return p.Node == x.From.Node })
	}
}

// gain has a place be among those who have the entry, once.
func (w *work) gain(p api.Place) {
	if !slices.Contains(w.Has, p) {
		w.Has = append(w.Has, p)
		w.settle()
	}
}

// spoil has those places on which the entry is to stand be bad that are as asked, each once.
func (w *work) spoil(is func(api.Place) bool) {
	bad := count(w.Bad...)
	for _, p := range w.toWrite() {
		if is(p) && bad[p] == 0 {
			bad[p]++
			w.Bad = append(w.Bad, p)
		}
	}
}

// since tells how many ticks ago a tick was; one that is still to come was just now.
func (w *work) since(tick uint64) uint64 { return w.now - min(tick, w.now) }

// tick gives up places that have not taken the entry for too long, and has others in their place; if there are none, it asks anew what was asked long ago.
func (w *work) tick(known ...api.Place) {
	if w.Phase == copies && w.since(w.Born) >= api.Patience {
		w.spoil(among(w.lacks()...))
		w.Born = w.now
	}
	if w.Phase == copies && len(w.Bad) > 0 && w.renew(known...) {
		return
	}
	if w.since(w.Since) >= api.Again {
		w.ask()
	}
}

// renew has known places be where bad ones are, from the entry on; either way nothing is bad any more. False: there are none, or too many fragments already.
func (w *work) renew(known ...api.Place) bool {
	old, _ := stripe.Frag(w.Frags, w.N)
	fresh, ok := stripe.Renew(old, w.Ledger.W, len(old.Bookies), w.Bad, known)
	w.Bad = nil
	fresh.First = w.N
	row := put(w.Frags, fresh)
	if !ok || len(row) > api.MaxFrags {
		return false
	}
	w.Frags = row
	w.write()
	return true
}

// put tells a row of fragments with a fresh one: behind those that begin ahead of it, in the place of all others.
func put(row []api.Frag, fresh api.Frag) []api.Frag {
	behind := func(f api.Frag) bool { return f.First >= fresh.First }
	return append(slices.DeleteFunc(slices.Clone(row), behind), fresh)
}
