package broker

import (
	"iter"
	"slices"

	"scrivener/api"
	"scrivener/owner"
)

// mostOps is how many operations wait at most.
const mostOps = 64

// The phases of a copier at which its broker does something.
const (
	copied = 3 // it has all
	ended  = 4 // it is given up
)

// told is what a bookie's node has told of itself.
type told struct {
	api.Place        // that it has; its Serial is 0, as long as it has told of none
	known     bool   // whether it has told of one
	writes    bool   // whether that could be written
	at        uint64 // when it told so
}

// copying is what a copier is about; its Phase is 0, where there is none.
type copying struct {
	api.Copier
	asked bool // whether the plan was asked to name the new place
}

// last is when something was done last that is done again and again.
type last struct {
	done bool // whether it was
	at   uint64
}

// state is what a broker is, and what it knows.
type state struct {
	api.Crew
	owners   []*owner.Owner // of the channels, from 1 on
	proposer api.Proposer
	ops      queue[api.Op] // the first one is what the proposer does
	begun    uint64        // how many operations of its own there were
	plan     api.Plan
	told     []told // of each bookie
	copying  copying
	greeted  last // bookies were said hello
	looked   last // the plan was looked at, as nothing else told it
}

// owned goes over the owners, by their channels' numbers.
func (s *state) owned() iter.Seq2[int, *owner.Owner] {
	return func(yield func(int, *owner.Owner) bool) {
		for i, o := range s.owners {
			if !yield(i+1, o) {
				return
			}
		}
	}
}

// toldBy tells what a node has told; nil: it is no bookie of the crew.
func (s *state) toldBy(node int) *told {
	i := slices.Index(s.Bookies, node)
	if i < 0 {
		return nil
	}
	return &s.told[i]
}

// places tells the places that are as asked, in the order of the crew's bookies.
func (s *state) places(are func(told) bool) []api.Place {
	var l []api.Place
	for _, x := range s.told {
		if are(x) {
			l = append(l, x.Place)
		}
	}
	return l
}

// number has the operation that waits first have its number, unless that is its client's.
func (s *state) number() {
	o := s.ops.head()
	if o == nil || o.N != 0 {
		return
	}
	s.begun++
	o.N = s.begun
	if o.Who == 0 {
		o.Who, o.Inc = s.Setup.Node, s.Setup.Inc
	}
}

// wait has an operation wait, behind the others.
func (s *state) wait(o api.Op) {
	s.ops.come(o)
	s.number()
}

// pass has the operation that waits first wait no more.
func (s *state) pass() {
	s.ops.leave()
	s.number()
}
