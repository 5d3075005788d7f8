package broker

import (
	"scrivener/api"
	"scrivener/chain"
	"scrivener/copier"
	"scrivener/owner"
	"scrivener/plan"
	"scrivener/proposer"
)

// work is a broker that is worked on at a tick, with what it sends.
type work struct {
	*state
	now   uint64
	sends api.Sends
}

// ask asks acceptors.
func (w *work) ask(l []api.Ask) { w.sends.Asks = append(w.sends.Asks, l...) }

// send asks bookies.
func (w *work) send(l ...api.Req) { w.sends.Reqs = append(w.sends.Reqs, l...) }

// reply answers clients.
func (w *work) reply(l ...api.Reply) { w.sends.Replies = append(w.sends.Replies, l...) }

// since tells how many ticks ago a tick was; one that is still to come was just now.
func (w *work) since(tick uint64) uint64 { return w.now - min(tick, w.now) }

// due tells whether something is to be done again, as it is so many ticks ago, or was not done yet; it is taken as done then.
func (w *work) due(l *last, ticks uint64) bool {
	if l.done && w.since(l.at) < ticks {
		return false
	}
	*l = last{true, w.now}
	return true
}

// goOn has the proposer do what waits first, if it has nothing to do.
func (w *work) goOn() {
	for proposer.Idle(w.proposer) {
		o := w.ops.head()
		if o == nil {
			return
		}
		next, asks, e := proposer.Start(w.proposer, w.now, *o)
		if e != api.OK {
			w.pass()
			continue
		}
		w.proposer = next
		w.ask(asks)
	}
}

// turn goes on with what an owner wants.
func (w *work) turn(x api.Out) {
	w.send(x.Reqs...)
	for _, o := range x.Ops {
		w.wait(o)
	}
	w.reply(x.Replies...)
}

// each has something done to each owner, by its number.
func (w *work) each(does func(*owner.Owner) api.Out) {
	for _, o := range w.owned() {
		w.turn(does(o))
	}
}

// call hands a client's call to its channel's owner.
func (w *work) call(c api.Call) {
	for channel, o := range w.owned() {
		if channel == c.Channel {
			w.turn(o.Call(w.now, c))
			return
		}
	}
	r := api.Reply{Client: c.Client, Inc: c.Inc, N: c.N, Result: api.BadRequest}
	if len(c.Body) > api.MaxBody {
		r.Result = api.TooLarge
	}
	w.reply(r)
}

// says has the proposer hear an acceptor.
func (w *work) says(s api.Says) {
	next, asks, decided := proposer.Take(w.proposer, w.now, s)
	w.proposer = next
	w.ask(asks)
	for _, d := range decided {
		w.decided(d)
	}
}

// decided tells all of an operation that was done: the one that waited first.
func (w *work) decided(d api.Decided) {
	w.pass()
	if d.Plan.Version > w.plan.Version {
		w.plan = d.Plan
	}
	w.each(func(o *owner.Owner) api.Out { return o.Decided(w.now, d) })
	if d.Op.Kind == api.OpReplace { // nobody but the copier asks for one
		w.copying = copying{}
	}
}

// take has a bookie's answer heard by whom it may be for.
func (w *work) take(r api.Resp) {
	if r.Kind == api.ReqHello {
		w.greet(r)
		return
	}
	w.each(func(o *owner.Owner) api.Out { return o.Take(w.now, r) })
	next, reqs := copier.Take(w.copying.Copier, w.now, r) // where there is none, none comes of it
	w.copying.Copier = next
	w.send(reqs...)
	if x := w.toldBy(r.From.Node); r.Code == api.RespStrange && x != nil && x.known && r.From.Serial > x.Serial {
		x.Place = r.From
	}
}

// greet hears what a bookie tells of itself.
func (w *work) greet(r api.Resp) {
	if x := w.toldBy(r.From.Node); x != nil {
		*x = told{Place: r.From, known: true, writes: r.Code == api.RespOk, at: w.now}
	}
}

// tick does what is due.
func (w *work) tick() {
	next, asks := proposer.Tick(w.proposer, w.now)
	w.proposer = next
	w.ask(asks)
	known := w.places(func(x told) bool { return x.writes && w.since(x.at) < api.Patience })
	w.each(func(o *owner.Owner) api.Out { return o.Tick(w.now, known...) })
	w.copies(known)
	if w.due(&w.greeted, api.Again) {
		w.hello()
		w.free()
	}
	if w.ops.head() == nil && w.due(&w.looked, api.Lease) {
		w.wait(api.Op{Kind: api.OpConfirm, Channel: 1}) // of no epoch: whatever comes of it, it tells the plan
	}
}

// copies has the copier go on; if there is none, it begins one, where something was lost.
func (w *work) copies(known []api.Place) {
	if w.copying.Phase == 0 {
		w.find(known)
		return
	}
	next, reqs := copier.Tick(w.copying.Copier, w.now)
	w.copying.Copier = next
	w.send(reqs...)
	switch {
	case next.Phase == copied && !w.copying.asked:
		w.copying.asked = true
		w.wait(api.Op{Kind: api.OpReplace, Ledger: next.Ledger.Id, From: next.From, To: next.To})
	case next.Phase == ended:
		w.copying = copying{}
	}
}

// find begins a copier of what a lost disk had, if there is such a one, and a place for it.
func (w *work) find(known []api.Place) {
	id, from, to, ok := copier.Find(w.plan, known...)
	if !ok {
		return
	}
	l, _ := plan.Find(w.plan, id)
	next, reqs, _ := copier.New(l, from, to, w.now) // of what may not be copied, none
	w.copying = copying{Copier: next}
	w.send(reqs...)
}

// hello asks each bookie which place it is.
func (w *work) hello() {
	for _, x := range w.told {
		w.send(api.Req{To: x.Place, Kind: api.ReqHello})
	}
}

// free tells all places which ledgers are no more, once a plan is known that was decided.
func (w *work) free() {
	if w.plan.Version == 0 {
		return
	}
	for _, place := range w.places(func(x told) bool { return x.known }) {
		w.send(api.Req{To: place, Kind: api.ReqFree, N: w.plan.Next, Keep: chain.Keep(w.plan)})
	}
}
