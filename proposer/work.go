package proposer

import (
	"bytes"
	"math"
	"slices"

	"scrivener/api"
	"scrivener/ballot"
	"scrivener/ops"
	"scrivener/plan"
)

// mostTries is how many tries are counted at most.
const mostTries = 255

// work is a proposer that is worked on at a tick, in memory of its own, with what it asks, and what was decided by it.
type work struct {
	api.Proposer
	now     uint64
	asks    []api.Ask
	decided []api.Decided
}

// sum tells a number and some more of them; where that is beyond a number, the greatest one, or 0.
func sum(n uint64, more int) uint64 {
	if more < 0 {
		return n - min(n, -uint64(more))
	}
	return n + min(uint64(more), math.MaxUint64-n)
}

// ask has each acceptor be asked that of the ballot and the value.
func (w *work) ask(kind int) {
	for i := range min(w.Metas, api.MaxMetas) {
		w.asks = append(w.asks, api.Ask{To: i + 1, Kind: kind, Ballot: w.Ballot, Value: bytes.Clone(w.Value)})
	}
}

// attempt begins another try; false: there is no ballot for it, and nothing has changed.
func (w *work) attempt() bool {
	// Who has tried in vain goes ahead of who begins.
	next, e := ballot.Next(w.Node, w.Inc, api.Ballot{Round: sum(w.High, w.Tries)})
	if e != api.OK {
		return false
	}
	w.Ballot, w.High = next, next.Round
	w.Phase, w.Heard, w.Value, w.Outcome = prepares, nil, nil, api.Outcome{}
	w.Since, w.Tries = w.now, min(w.Tries, mostTries-1)+1
	w.ask(api.AskPrepare)
	return true
}

// rest has the proposer wait for its next try.
func (w *work) rest() { w.Phase, w.Since = rests, w.now }

// whose tells whose a promise is.
func whose(p api.Promise) int { return p.From }

// heeds tells whether an acceptor's answer is to what is asked now, and its first one.
func (w *work) heeds(s api.Says) bool {
	return !Idle(w.Proposer) && s.Ballot == w.Ballot && within(s.From, 1, w.Metas) &&
		!slices.Contains(each(w.Heard, whose), s.From)
}

// take does what an answer that is heeded comes to.
func (w *work) take(s api.Says) {
	switch {
	case s.Kind == api.SaysRefused:
		w.refused(s.Promised.Round)
	case s.Kind == api.SaysPromise && w.Phase == prepares:
		if w.hear(api.Promise{From: s.From, Accepted: s.Accepted, Value: bytes.Clone(s.Value)}) {
			w.propose()
		}
	case s.Kind == api.SaysAccepted && w.Phase == accepts:
		if w.hear(api.Promise{From: s.From}) {
			w.decide()
		}
	}
}

// refused has the next try go behind the round that was told, if there is such a round.
func (w *work) refused(round uint64) {
	if round <= api.MaxCount {
		w.High = max(w.High, round)
	}
	w.rest()
}

// hear keeps an answer, and tells whether a majority has answered.
func (w *work) hear(p api.Promise) bool {
	w.Heard = append(w.Heard, p)
	return ballot.Quorum(w.Metas, each(w.Heard, whose)...)
}

// latest tells the plan that may be decided already, by what a majority has promised: that is what goes on.
func latest(channels int, heard ...api.Promise) (api.Plan, api.Errno) {
	p, ok := ballot.Highest(heard...)
	if !ok {
		return plan.Start(channels)
	}
	return plan.Decode(p.Value)
}

// propose does the operation to the latest plan, and asks to accept what that becomes.
func (w *work) propose() {
	p, e := latest(w.Channels, w.Heard...)
	if e != api.OK {
		w.rest()
		return
	}
	p, w.Outcome = ops.Apply(p, w.Op)
	w.Value, _ = plan.Encode(p) // it may be, as what becomes of a plan that may be
	w.Phase, w.Heard = accepts, nil
	w.ask(api.AskAccept)
}

// decide tells what was accepted by a majority, and has the proposer be idle.
func (w *work) decide() {
	p, _ := plan.Decode(w.Value)
	w.decided = []api.Decided{{Op: w.Op, Outcome: w.Outcome, Plan: p}}
	w.Phase, w.Op, w.Heard, w.Value, w.Outcome, w.Tries = idle, api.Op{}, nil, nil, api.Outcome{}, 0
}
