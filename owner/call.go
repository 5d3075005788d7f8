package owner

import (
	"bytes"

	"scrivener/api"
)

// The stages of a call.
const (
	isNew     = iota // nothing was done for it as yet
	isSent           // a publish, whose entry stands in the ledger that is written
	isWanting        // a read, till the plan is asked whose the channel is
	isAsked          // a read, for which it is asked that
	isFetched        // a read, whose entry is fetched
	isPlanned        // what the plan does, as it was told to the broker
)

// call is a call that waits.
type call struct {
	api.Call
	stage  int
	offset uint64 // where the entry of one that was sent stands
	fetch  fetch  // of one that fetches
}

// own tells the same call in memory of its own.
func own(c api.Call) api.Call {
	c.Body = bytes.Clone(c.Body)
	return c
}

// is tells whether a call is the one of that client's life and number.
func (c *call) is(client int, inc, n uint64) bool {
	return c.Client == client && c.Inc == inc && c.N == n
}

// needsLedger tells whether a call is a message that stands in no ledger as yet.
func (c *call) needsLedger() bool { return c.Kind == api.CallPublish && c.stage == isNew }

// may tells whether a call of a channel may be.
func may(c api.Call, channel int) bool {
	return within(c.Client, 1, api.MaxNodes) && counts(c.Inc) && counts(c.N) &&
		c.Channel == channel && c.At <= api.MaxCount && named(c)
}

// named tells whether a call has what its kind names, and nothing else.
func named(c api.Call) bool {
	isMessage := c.Seq != 0 || len(c.Body) > 0
	switch c.Kind {
	case api.CallPublish:
		return counts(c.Seq) && c.Sub == 0 && c.At == 0
	case api.CallRead, api.CallTrim:
		return c.Sub == 0 && !isMessage
	case api.CallCursor:
		if c.At != 0 {
			return false
		}
		fallthrough
	case api.CallAck, api.CallSeek:
		return within(c.Sub, 1, api.MaxSubs) && !isMessage
	}
	return false
}

// operation tells the kind of the operation by which the plan does a call; 0: it is none of the plan's.
func operation(kind int) int {
	switch kind {
	case api.CallTrim:
		return api.OpTrim
	case api.CallAck:
		return api.OpAck
	case api.CallSeek:
		return api.OpSeek
	case api.CallCursor:
		return api.OpCursor
	}
	return 0
}

// reply tells the reply to a call.
func reply(c api.Call, r api.Reply) api.Reply {
	r.Client, r.Inc, r.N = c.Client, c.Inc, c.N
	return r
}

// answered tells what comes of a call that the plan has done.
func answered(x api.Outcome) api.Reply {
	switch x.Code {
	case api.OK:
		return api.Reply{Result: api.Done, At: x.At}
	case api.ErrFull:
		return api.Reply{Result: api.QuotaFull}
	case api.ErrNone:
		return api.Reply{Result: api.NotFound}
	}
	return api.Reply{Result: api.BadRequest}
}
