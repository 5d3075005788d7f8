package owner

import (
	"slices"

	"scrivener/api"
	"scrivener/plan"
	"scrivener/reader"
	"scrivener/recovery"
	"scrivener/writer"
)

// decided does what an operation that was done comes to.
func (w *work) decided(d api.Decided) {
	if d.Plan.Version > w.plan.Version {
		w.learn(d.Plan)
	}
	c := w.doneBy(d.Op)
	isOwn := w.asks() && sameBut(d.Op, w.asked)
	switch {
	case isOwn:
		w.came(d.Outcome)
	case c != nil && d.Outcome.Code == api.ErrStale:
		w.lose(d.Outcome.Owner)
	case c != nil:
		w.end(c, answered(d.Outcome))
	}
	w.leave(isOwn || c != nil)
}

// learn has a newer plan be the owner's.
func (w *work) learn(p api.Plan) {
	w.plan = plan.Copy(p)
	for f := range w.fetches() {
		if l, ok := plan.Find(w.plan, f.Ledger); ok {
			next, reqs := reader.Moved(f.Fetch, w.now, l)
			f.Fetch = next
			w.send(reqs)
		}
	}
	w.answer(func(c *call) (api.Reply, bool) {
		_, ok := plan.Find(w.plan, c.fetch.Ledger)
		return trimmed(c), c.stage == isFetched && !ok
	})
}

// trimmed tells what comes of a read of what is no more.
func trimmed(c *call) api.Reply { return api.Reply{Result: api.Trimmed, At: c.At} }

// doneBy tells the call that an operation does; nil: none that waits for it.
func (w *work) doneBy(o api.Op) *call {
	return w.calls.find(func(c *call) bool {
		return c.stage == isPlanned && c.is(o.Who, o.Inc, o.N) && operation(c.Kind) == o.Kind
	})
}

// leave loses the channel, if by the plan another one has it. Behind an operation that was its own, or a call's, P21.4 does not ask for that; but beside another one's ledgers what is sent would be taken for what stands there, and answered as done (P21.9).
func (w *work) leave(isKnown bool) {
	c := w.row()
	isOther := w.epoch != 0 && c.Epoch != w.epoch
	if isOther && (!isKnown || w.writes() && c.Epoch > w.epoch) {
		w.lose(c.Owner)
	}
}

// came does what the outcome of its own operation comes to.
func (w *work) came(x api.Outcome) {
	kind := w.asked.Kind
	w.asked = api.Op{}
	if x.Code == api.ErrStale {
		w.lose(x.Owner)
	} else if !w.goesBy(kind, x) {
		w.lose(0)
	}
}

// goesBy does what an outcome of an operation of its own comes to; false: there is nothing that it could come to.
func (w *work) goesBy(kind int, x api.Outcome) bool {
	switch kind {
	case api.OpGrab:
		return w.grabbed(x)
	case api.OpLedger:
		return w.opened(x)
	case api.OpChange:
		return w.changed(x.Code)
	case api.OpForget:
		return w.forgot(x.Code)
	}
	if x.Code != api.OK {
		return false
	}
	switch kind {
	case api.OpClose:
		w.closed()
	case api.OpConfirm:
		w.confirmed(x.At)
	}
	return true
}

// grabbed begins to find out what the channel has, if the owner has it now.
func (w *work) grabbed(x api.Outcome) bool {
	switch x.Code {
	case api.OK:
		w.epoch, w.phase = x.Epoch, api.OwnReplays
		if l, ok := plan.Open(w.plan, w.channel); ok {
			w.phase = api.OwnRecovers
			r, reqs, _ := recovery.New(l, w.epoch, w.now)
			w.recovery = r
			w.send(reqs)
		}
	case api.ErrState, api.ErrFull, api.ErrNone:
		w.lose(x.Owner)
	default:
		return false
	}
	return true
}

// closed goes on behind a ledger that is closed: with what stands in it, or, if it was the writer's, with the next one.
func (w *work) closed() {
	if w.phase == api.OwnRecovers {
		w.phase, w.recovery = api.OwnReplays, api.Recovery{}
	}
	w.writer = api.Writer{}
}

// opened has a writer of the ledger; messages find no room, if there may be no more ledgers.
func (w *work) opened(x api.Outcome) bool {
	switch x.Code {
	case api.OK:
		l, _ := plan.Find(w.plan, x.Ledger)
		w.writer, _ = writer.New(l, w.epoch) // of one that is not there, or not open any more, none
	case api.ErrFull:
		w.answer(func(c *call) (api.Reply, bool) {
			return api.Reply{Result: api.QuotaFull}, c.needsLedger()
		})
	default:
		return false
	}
	return true
}

// changed tells the writer whether its entries stand elsewhere from now on.
func (w *work) changed(code api.Errno) bool {
	switch code {
	case api.OK, api.ErrState, api.ErrFull:
		next, reqs := writer.Changed(w.writer, w.now, code == api.OK)
		w.writer = next
		w.send(reqs)
		return true
	}
	return false
}

// forgot leaves out what the channel has no more.
func (w *work) forgot(code api.Errno) bool {
	switch code {
	case api.OK, api.ErrState:
		first := w.row().First
		w.marks = slices.DeleteFunc(w.marks, func(m api.Mark) bool { return m.Offset < first })
		return true
	}
	return false
}

// confirmed goes on with all reads for which that was asked: the channel was the owner's then, and trimmed so far.
func (w *work) confirmed(trim uint64) {
	length := w.length()
	w.answer(func(c *call) (api.Reply, bool) {
		switch {
		case c.stage != isAsked:
			return api.Reply{}, false
		case c.At < trim:
			return trimmed(c), true
		case c.At >= length:
			return api.Reply{Result: api.NotFound, At: c.At}, true
		}
		f, ok := w.fetching(c.At)
		c.stage, c.fetch = isFetched, f
		// What does not stand there any more was trimmed since.
		return trimmed(c), !ok
	})
}
