package plan

import (
	"scrivener/api"
	"scrivener/code"
)

// putRow writes how many a row has, and each of them.
func putRow[T any](w *code.Writer, row []T, put func(*code.Writer, T)) {
	w.Uint(uint64(len(row)))
	for _, x := range row {
		put(w, x)
	}
}

// putMark writes a producer's last message.
func putMark(w *code.Writer, m api.Mark) { w.Put(uint64(m.Producer), m.Seq, m.Offset) }

// putCursor writes a subscription's cursor.
func putCursor(w *code.Writer, c api.Cursor) { w.Put(uint64(c.Sub), c.At) }

// putChannel writes a channel.
func putChannel(w *code.Writer, c api.Channel) {
	w.Put(c.Epoch, uint64(c.Owner), c.Inc, c.Renewed, c.First, c.Trim)
	putRow(w, c.Ledgers, (*code.Writer).Uint)
	putRow(w, c.Seen, putMark)
	putRow(w, c.Cursors, putCursor)
}

// putPlace writes a place.
func putPlace(w *code.Writer, p api.Place) { w.Put(uint64(p.Node), p.Serial) }

// putFrag writes a fragment.
func putFrag(w *code.Writer, f api.Frag) {
	w.Put(f.First)
	putRow(w, f.Bookies, putPlace)
}

// putLedger writes a ledger.
func putLedger(w *code.Writer, l api.Ledger) {
	w.Put(l.Id, uint64(l.W), uint64(l.A), uint64(l.Closed), l.Last)
	putRow(w, l.Frags, putFrag)
}

// putPast writes somebody's last operation, and what came of it.
func putPast(w *code.Writer, p api.Past) {
	o := p.Outcome
	w.Put(uint64(p.Who), p.Inc, p.N, uint64(o.Code), o.Epoch, o.At, o.Ledger, uint64(o.Owner))
}

// Encode tells the bytes of a plan that may be.
func Encode(p api.Plan) ([]byte, api.Errno) {
	if !May(p) {
		return nil, api.ErrArg
	}
	w := code.NewWriter()
	w.Put(p.Version, p.Next)
	putRow(w, p.Channels, putChannel)
	putRow(w, p.Ledgers, putLedger)
	putRow(w, p.Past, putPast)
	return w.Bytes(), api.OK
}

// reader reads a plan's parts. The calls that fill a struct come in the order of its bytes.
type reader struct {
	*code.Reader
}

// small reads a number that is no greater than a node's may be, as all are that stand in ints.
func (r reader) small() int {
	x := r.Uint()
	// A greater one might be another as an int.
	if x > api.MaxNodes {
		r.Fail()
		return 0
	}
	return int(x)
}

// row reads how many a row has, and each of them, as far as there is no fault.
func row[T any](r reader, read func() T) []T {
	var l []T
	for range r.Uint() {
		x := read()
		if r.Err() != api.OK {
			break
		}
		l = append(l, x)
	}
	return l
}

// mark reads a producer's last message.
func (r reader) mark() api.Mark {
	return api.Mark{Producer: r.small(), Seq: r.Uint(), Offset: r.Uint()}
}

// cursor reads a subscription's cursor.
func (r reader) cursor() api.Cursor { return api.Cursor{Sub: r.small(), At: r.Uint()} }

// channel reads a channel.
func (r reader) channel() api.Channel {
	return api.Channel{
		Epoch: r.Uint(), Owner: r.small(), Inc: r.Uint(), Renewed: r.Uint(), First: r.Uint(), Trim: r.Uint(),
		Ledgers: row(r, r.Uint), Seen: row(r, r.mark), Cursors: row(r, r.cursor),
	}
}

// place reads a place.
func (r reader) place() api.Place { return api.Place{Node: r.small(), Serial: r.Uint()} }

// frag reads a fragment.
func (r reader) frag() api.Frag { return api.Frag{First: r.Uint(), Bookies: row(r, r.place)} }

// ledger reads a ledger.
func (r reader) ledger() api.Ledger {
	return api.Ledger{Id: r.Uint(), W: r.small(), A: r.small(), Closed: r.small(), Last: r.Uint(), Frags: row(r, r.frag)}
}

// past reads somebody's last operation, and what came of it.
func (r reader) past() api.Past {
	return api.Past{Who: r.small(), Inc: r.Uint(), N: r.Uint(), Outcome: r.outcome()}
}

// outcome reads what came of an operation.
func (r reader) outcome() api.Outcome {
	return api.Outcome{Code: api.Errno(r.small()), Epoch: r.Uint(), At: r.Uint(), Ledger: r.Uint(), Owner: r.small()}
}

// Decode tells the plan that has those bytes.
func Decode(b []byte) (api.Plan, api.Errno) {
	// No plan has more bytes: a claim of more is not worth the room.
	if len(b) > api.MaxFrame {
		return api.Plan{}, api.ErrForm
	}
	r := reader{code.NewReader(b)}
	p := api.Plan{Version: r.Uint(), Next: r.Uint(), Channels: row(r, r.channel), Ledgers: row(r, r.ledger), Past: row(r, r.past)}
	if r.End() != api.OK || !May(p) {
		return api.Plan{}, api.ErrForm
	}
	return p, api.OK
}
