package owner

import (
	"cmp"
	"iter"
	"slices"

	"scrivener/api"
	"scrivener/chain"
	"scrivener/plan"
	"scrivener/seen"
)

// tags is where the tags of fetches begin: behind the epochs, by which a recovery tells its answers.
const tags = 1 << 60

// fetch is an entry of the channel that is fetched; its Tag is 0, where there is none.
type fetch struct {
	api.Fetch
	offset uint64
}

// state is what an owner is, and what it knows.
type state struct {
	setup    api.Setup
	channel  int
	plan     api.Plan
	phase    int
	epoch    uint64
	calls    queue[call]
	marks    []api.Mark   // of the entries that it knows of, by their offsets
	asked    api.Op       // what it asks of the plan; its Kind is 0, where there is nothing
	renewed  uint64       // when it asked last to have the channel, or to keep it
	writer   api.Writer   // its ledger's Id is 0, where there is none
	recovery api.Recovery // in OwnRecovers
	replay   fetch        // in OwnReplays
	fetched  uint64       // how many fetches there were
	known    []api.Place
}

// row tells the channel by the plan; the zero one, if that has none of its number.
func (s *state) row() api.Channel {
	if s.channel > len(s.plan.Channels) {
		return api.Channel{}
	}
	return s.plan.Channels[s.channel-1]
}

// writes tells whether there is a writer.
func (s *state) writes() bool { return s.writer.Ledger.Id != 0 }

// length tells the offset behind the channel's last entry that is sure.
func (s *state) length() uint64 { return chain.Length(s.plan, s.channel, s.writer.Sure) }

// closedEnd tells the offset behind the last entry of the channel's closed ledgers.
func (s *state) closedEnd() uint64 { return plan.End(s.plan, s.channel) }

// mark tells the mark of an offset; false: it is not there.
func (s *state) mark(offset uint64) (api.Mark, bool) {
	i := slices.IndexFunc(s.marks, func(m api.Mark) bool { return m.Offset == offset })
	if i < 0 {
		return api.Mark{}, false
	}
	return s.marks[i], true
}

// knows tells whether an offset's mark is there.
func (s *state) knows(offset uint64) bool {
	_, ok := s.mark(offset)
	return ok
}

// note has an entry's mark be there.
func (s *state) note(m api.Mark) {
	s.marks = append(s.marks, m)
	slices.SortStableFunc(s.marks, func(a, b api.Mark) int { return cmp.Compare(a.Offset, b.Offset) })
}

// seen tells what the plan has seen of producers, and what those marks tell behind it.
func (s *state) seen(marks ...api.Mark) []api.Mark {
	row := slices.Clone(s.row().Seen)
	for _, m := range marks {
		// What finds no room there is left out.
		if next, e := seen.Add(row, m); e == api.OK {
			row = next
		}
	}
	return row
}

// fetches goes over all that is fetched, each where it stands.
func (s *state) fetches() iter.Seq[*fetch] {
	return func(yield func(*fetch) bool) {
		if s.replay.Tag != 0 && !yield(&s.replay) {
			return
		}
		for c := range s.calls.all() {
			if c.stage == isFetched && !yield(&c.fetch) {
				return
			}
		}
	}
}

// lists tells an operation's lists as parts of a plan, so that plan's own calls hold them against others, and copy them.
func lists(o api.Op) api.Plan {
	return api.Plan{Channels: []api.Channel{{Seen: o.Seen}}, Ledgers: []api.Ledger{{Frags: o.Frags}}}
}

// ownOp tells the same operation in memory of its own.
func ownOp(o api.Op) api.Op {
	l := plan.Copy(lists(o))
	o.Seen, o.Frags = l.Channels[0].Seen, l.Ledgers[0].Frags
	return o
}

// sameBut tells whether two operations are the same but for their numbers.
func sameBut(a, b api.Op) bool {
	return a.Who == b.Who && a.Inc == b.Inc && a.Kind == b.Kind && a.Channel == b.Channel &&
		a.Epoch == b.Epoch && a.Ledger == b.Ledger && a.At == b.At && a.Now == b.Now &&
		a.Sub == b.Sub && a.W == b.W && a.A == b.A && a.From == b.From && a.To == b.To &&
		plan.Same(lists(a), lists(b))
}
