package owner

import (
	"scrivener/api"
	"scrivener/chain"
	"scrivener/entry"
	"scrivener/plan"
	"scrivener/recovery"
	"scrivener/seen"
	"scrivener/stripe"
	"scrivener/writer"
)

// first does the first of those steps that can be done; false: none can.
func first(steps ...func() bool) bool {
	for _, does := range steps {
		if does() {
			return true
		}
	}
	return false
}

// goOn does, again and again, the first of what can be done.
func (w *work) goOn() {
	steps := [...]func() bool{w.closes, w.replays, w.tells, w.settles, w.begins, w.wants}
	for first(steps[:]...) {
	}
}

// closes asks for the ledger whose end is found out to be closed.
func (w *work) closes() bool {
	last, frags, ok := recovery.Ended(w.recovery)
	if w.phase != api.OwnRecovers || !ok || w.asks() {
		return false
	}
	w.ask(api.Op{Kind: api.OpClose, Ledger: w.recovery.Ledger.Id, At: last, Frags: frags})
	return true
}

// replays fetches the next entry that is not known; once all are the owner serves.
func (w *work) replays() bool {
	if w.phase != api.OwnReplays || w.replay.Tag != 0 {
		return false
	}
	offset, end := w.row().First, w.closedEnd()
	for offset < end && w.knows(offset) {
		offset++
	}
	if offset >= end {
		w.phase = api.OwnServes
		return true
	}
	f, ok := w.fetching(offset)
	w.replay = f
	return ok
}

// tells answers a read whose entry is there.
func (w *work) tells() bool {
	c := w.calls.find(func(c *call) bool { return c.stage == isFetched && c.fetch.Done == 1 })
	if c == nil {
		return false
	}
	e, _ := entry.Decode(c.fetch.Body) // what is none was not taken
	w.end(c, api.Reply{Result: api.Done, At: c.fetch.offset, Producer: e.Producer, Seq: e.Seq, Body: e.Body})
	return true
}

// settles answers a publish whose entry is sure.
func (w *work) settles() bool {
	length := w.length()
	c := w.calls.find(func(c *call) bool { return c.stage == isSent && c.offset < length })
	if c == nil {
		return false
	}
	w.end(c, api.Reply{Result: api.Done, At: c.offset})
	return true
}

// begins does something for the first new call for which something can be done.
func (w *work) begins() bool {
	if w.phase != api.OwnServes {
		return false
	}
	for c := range w.calls.all() {
		if c.stage == isNew && w.begin(c) {
			return true
		}
	}
	return false
}

// begin does something for a new call; false: that cannot be as yet.
func (w *work) begin(c *call) bool {
	switch c.Kind {
	case api.CallPublish:
		return w.publish(c)
	case api.CallRead:
		c.stage = isWanting
	default:
		w.operate(c)
	}
	return true
}

// operate tells the broker the operation by which the plan does a call.
func (w *work) operate(c *call) {
	c.stage = isPlanned
	o := api.Op{
		Who: c.Client, Inc: c.Inc, N: c.N, Kind: operation(c.Kind),
		Channel: w.channel, Epoch: w.epoch, Sub: c.Sub, At: c.At,
	}
	if c.Kind == api.CallTrim {
		o.At = min(o.At, w.length())
	}
	w.out.Ops = append(w.out.Ops, o)
}

// publish has a message be in the log once.
func (w *work) publish(c *call) bool {
	row := w.seen(w.marks...)
	kind, offset := seen.Ask(row, c.Client, c.Seq)
	switch kind {
	case api.SeenOld:
		last, _ := seen.Last(row, c.Client)
		if last.Offset >= w.length() {
			return false
		}
		w.end(c, api.Reply{Result: api.BadRequest})
	case api.SeenFull:
		w.end(c, api.Reply{Result: api.QuotaFull})
	case api.SeenLast:
		// If it is below the length, it is answered at the next step.
		c.stage, c.offset = isSent, offset
	default:
		return w.write(c)
	}
	return true
}

// write sends a message as the ledger's next entry; false: there is no ledger with room for it.
func (w *work) write(c *call) bool {
	body, e := entry.Encode(api.Entry{Producer: c.Client, Seq: c.Seq, Body: c.Body})
	if e != api.OK || !w.writes() {
		return false
	}
	n := w.writer.Next
	next, reqs, e := writer.Send(w.writer, w.now, body)
	if e != api.OK {
		return false
	}
	w.writer = next
	w.send(reqs)
	c.stage, c.offset = isSent, w.closedEnd()+n-1
	w.note(api.Mark{Producer: c.Client, Seq: c.Seq, Offset: c.offset})
	return true
}

// wants asks the plan for the first of what an owner needs, if nothing is asked for.
func (w *work) wants() bool {
	return w.phase == api.OwnServes && !w.asks() &&
		first(w.change, w.fill, w.open, w.renew, w.confirm, w.forget)
}

// change asks for other places instead of those that are bad.
func (w *work) change() bool {
	next, frag, ok := writer.Ask(w.writer, w.setup.E, w.known...)
	w.writer = next
	if ok {
		w.ask(api.Op{Kind: api.OpChange, Ledger: next.Ledger.Id, Frags: []api.Frag{frag}})
	}
	return ok
}

// fill asks for a ledger to be closed that has as many entries as it may have.
func (w *work) fill() bool {
	if !w.writes() || !writer.Full(w.writer) || len(w.writer.Waits) > 0 {
		return false
	}
	w.ask(api.Op{Kind: api.OpClose, Ledger: w.writer.Ledger.Id, At: w.writer.Sure, Frags: w.writer.Ledger.Frags})
	return true
}

// open asks for a ledger, where a message has none.
func (w *work) open() bool {
	if w.writes() || w.calls.find((*call).needsLedger) == nil {
		return false
	}
	places, e := stripe.Pick(w.known, w.setup.E, w.setup.W)
	if e != api.OK {
		return false
	}
	if _, open := plan.Open(w.plan, w.channel); open {
		// Somebody writes there, or did: who owns the channel next finds out what.
		w.lose(0)
		return true
	}
	w.ask(api.Op{Kind: api.OpLedger, W: w.setup.W, A: w.setup.A, Frags: []api.Frag{{First: 1, Bookies: places}}})
	return true
}

// renew asks to keep the channel, a good while ahead of its being anybody's to grab.
func (w *work) renew() bool {
	if w.since(w.renewed) < api.Lease/3 {
		return false
	}
	w.ask(api.Op{Kind: api.OpRenew})
	return true
}

// confirm asks whether the channel is still the owner's, for all who want to read.
func (w *work) confirm() bool {
	waits := false
	for c := range w.calls.all() {
		if c.stage == isWanting {
			c.stage, waits = isAsked, true
		}
	}
	if waits {
		w.ask(api.Op{Kind: api.OpConfirm})
	}
	return waits
}

// forget asks for ledgers to be no more of which all was trimmed.
func (w *work) forget() bool {
	gone, next, from := chain.Gone(w.plan, w.channel)
	if len(gone) == 0 {
		return false
	}
	w.ask(api.Op{Kind: api.OpForget, Ledger: next, Seen: w.seen(seen.Cut(w.marks, from)...)})
	return true
}
