package owner

import (
	"scrivener/api"
	"scrivener/chain"
	"scrivener/entry"
	"scrivener/plan"
	"scrivener/reader"
	"scrivener/recovery"
	"scrivener/writer"
)

// work is an owner that is worked on at a tick, with what it wants.
type work struct {
	*state
	now uint64
	out api.Out
}

// send wants bookies to be asked.
func (w *work) send(reqs []api.Req) { w.out.Reqs = append(w.out.Reqs, reqs...) }

// since tells how many ticks ago a tick was; one that is still to come was just now.
func (w *work) since(tick uint64) uint64 { return w.now - min(tick, w.now) }

// ask wants the plan to do an operation of the owner's own.
func (w *work) ask(o api.Op) {
	o.Who, o.Inc, o.Channel, o.Epoch = w.setup.Node, w.setup.Inc, w.channel, w.epoch
	if o.Kind == api.OpGrab || o.Kind == api.OpRenew {
		o.Now, w.renewed = w.now, w.now
	}
	w.asked = o
	w.out.Ops = append(w.out.Ops, ownOp(o))
}

// asks tells whether something is asked for.
func (w *work) asks() bool { return w.asked.Kind != 0 }

// answer ends calls: a client is told how its call ends, and that waits no more; false: it does not end as yet.
func (w *work) answer(ends func(*call) (api.Reply, bool)) {
	w.calls.drop(func(c *call) bool {
		r, ok := ends(c)
		if ok {
			w.out.Replies = append(w.out.Replies, reply(c.Call, r))
		}
		return ok
	})
}

// end ends one of the calls.
func (w *work) end(c *call, r api.Reply) {
	w.answer(func(x *call) (api.Reply, bool) { return r, x == c })
}

// lose has the channel be somebody else's, who is told to those who call (0: nobody knows).
func (w *work) lose(owner int) {
	w.answer(func(c *call) (api.Reply, bool) {
		if c.stage == isSent {
			return api.Reply{Result: api.Fenced, Owner: owner}, true
		}
		return api.Reply{Result: api.NotOwner, Owner: owner}, true
	})
	*w.state = state{setup: w.setup, channel: w.channel, plan: w.plan, fetched: w.fetched, known: w.known}
}

// call has a call wait, if it may be, and is not one of those that waited or were given up.
func (w *work) call(c api.Call) {
	if len(c.Body) > api.MaxBody {
		w.out.Replies = []api.Reply{reply(c, api.Reply{Result: api.TooLarge})}
		return
	}
	if !may(c, w.channel) {
		w.out.Replies = []api.Reply{reply(c, api.Reply{Result: api.BadRequest})}
		return
	}
	ofClient := func(x *call) bool { return x.Client == c.Client }
	if x := w.calls.find(ofClient); x != nil && (x.Inc > c.Inc || x.Inc == c.Inc && x.N >= c.N) {
		return
	}
	w.calls.drop(ofClient)
	w.calls.come(call{Call: own(c)})
	if w.phase == api.OwnIdle {
		w.phase = api.OwnGrabs
		w.ask(api.Op{Kind: api.OpGrab})
	}
	w.goOn()
}

// take does what a bookie's answer comes to.
func (w *work) take(r api.Resp) {
	switch r.Kind {
	case api.ReqGet:
		if r.Epoch >= tags {
			w.got(r)
			return
		}
		fallthrough
	case api.ReqFence:
		w.recovers(r)
	case api.ReqAdd:
		w.added(r)
		w.recovers(r)
	}
}

// recovers has the recovery hear an answer.
func (w *work) recovers(r api.Resp) {
	if w.phase != api.OwnRecovers {
		return
	}
	next, reqs := recovery.Take(w.recovery, w.now, r)
	w.recovery = next
	w.send(reqs)
}

// added has the writer hear an answer.
func (w *work) added(r api.Resp) {
	if !w.writes() {
		return
	}
	w.writer = writer.Take(w.writer, w.now, r)
	if w.writer.Fenced == 1 {
		w.lose(0)
	}
}

// got has a fetch hear an answer.
func (w *work) got(r api.Resp) {
	for f := range w.fetches() {
		if f.Tag != r.Epoch {
			continue
		}
		if r.Code == api.RespOk && !w.fits(f.offset, r.Body) {
			r.Code = api.RespNone
		}
		next, reqs := reader.Take(f.Fetch, w.now, r)
		f.Fetch = next
		w.send(reqs)
	}
	if w.replay.Done == 1 {
		w.replayed()
	}
}

// fits tells whether bytes are an entry, and the one that stands at an offset, if that is known.
func (w *work) fits(offset uint64, body []byte) bool {
	e, code := entry.Decode(body)
	m, ok := w.mark(offset)
	return code == api.OK && (!ok || m.Producer == e.Producer && m.Seq == e.Seq)
}

// replayed has the entry that was fetched be known.
func (w *work) replayed() {
	e, _ := entry.Decode(w.replay.Body)
	w.note(api.Mark{Producer: e.Producer, Seq: e.Seq, Offset: w.replay.offset})
	w.replay = fetch{}
}

// tick does what is due; it has lost, if an entry was not sure for too long.
func (w *work) tick() {
	if w.phase == api.OwnRecovers {
		next, reqs := recovery.Tick(w.recovery, w.now, w.known...)
		w.recovery = next
		w.send(reqs)
	}
	if w.writes() {
		next, reqs := writer.Tick(w.writer, w.now)
		w.writer = next
		w.send(reqs)
	}
	for f := range w.fetches() {
		next, reqs := reader.Tick(f.Fetch, w.now)
		f.Fetch = next
		w.send(reqs)
	}
	if len(w.writer.Waits) > 0 && w.since(w.writer.Waits[0].Born) >= 3*api.Patience {
		w.lose(0)
	}
}

// fetching tells the fetch of the entry that stands at an offset; false: none does.
func (w *work) fetching(offset uint64) (fetch, bool) {
	s, e := chain.Find(w.plan, w.channel, w.writer.Sure, offset)
	if e != api.OK {
		return fetch{}, false
	}
	l, _ := plan.Find(w.plan, s.Ledger) // chain tells just such as are there
	f, reqs, e := reader.New(l, s.N, tags+w.fetched, w.now)
	if e != api.OK {
		return fetch{}, false
	}
	w.fetched++
	w.send(reqs)
	return fetch{f, offset}, true
}
