package acceptor_test

import (
	"fmt"
	"math/rand/v2"
	"slices"
	"testing"

	"scrivener/acceptor"
	"scrivener/api"
	"scrivener/disk"
)

// its tells the one value that a ballot is asked to be accepted with.
func its(b api.Ballot) string { return fmt.Sprint("of ", b) }

// meta is an acceptor with its disk.
type meta struct {
	*acceptor.Acceptor
	node int
	disk *disk.Disk
}

// begin tells an acceptor on a new disk.
func begin(t *testing.T, node int) *meta {
	d := roomy(t, 400)
	return &meta{opened(t, node, d), node, d}
}

// stumble has a meta crash at times, anywhere, and begin anew; or its disk be written to by others, or be too full.
func (m *meta) stumble(t *testing.T, r *rand.Rand) {
	switch r.IntN(8) {
	case 0:
		m.Acceptor = opened(t, m.node, crashed(t, m.disk, r.IntN(4), r.IntN(4)))
	case 1:
		m.Acceptor = opened(t, m.node, m.disk)
	case 2:
		m.disk.Append("other", make([]byte, r.IntN(400)))
	case 3:
		m.disk.Remove("other")
	}
}

// P9.5: what is promised, and what is accepted, never falls; a value is that of its ballot.
func TestNeverFalls(t *testing.T) {
	r := rand.New(rand.NewPCG(9, 3))
	promises, accepts := 0, 0
	for range 600 {
		m := begin(t, 1+r.IntN(3))
		var last api.Promise
		for range 60 {
			m.stumble(t, r)
			b := drawBallot(r, 12)
			if r.IntN(2) == 0 {
				m.Prepare(1, b)
			} else {
				m.Accept(1, b, []byte(its(b)))
			}
			s := m.State()
			if order(s.Promised, last.Promised) < 0 || order(s.Accepted, last.Accepted) < 0 || order(s.Accepted, s.Promised) > 0 {
				t.Fatalf("%+v, behind %+v", s, last)
			}
			if s.Accepted != (api.Ballot{}) && string(s.Value) != its(s.Accepted) || s.Accepted == (api.Ballot{}) && len(s.Value) > 0 {
				t.Fatalf("%+v: %q", s, s.Value)
			}
			if s.Promised != last.Promised {
				promises++
			}
			if s.Accepted != last.Accepted {
				accepts++
			}
			last = s
		}
	}
	if promises < 1000 || accepts < 1000 {
		t.Error(promises, accepts)
	}
}

// P9.6: behind a crash at any place the state is that of the last answer, or of the call that the crash met.
func TestLasts(t *testing.T) {
	r := rand.New(rand.NewPCG(9, 4))
	for range 300 {
		m := begin(t, 1)
		for range 20 {
			m.stumble(t, r)
			was, ahead := m.State(), m.disk.Copy()
			c := asked{1, drawBallot(r, 12), r.IntN(2) == 0, drawValue(r)}
			c.of(m.Acceptor)
			is := m.State()
			written, _ := m.disk.Read("meta")
			for keep := range 4 {
				for _, torn := range []int{0, 1, 9} {
					// The crash comes behind the answer.
					if s := opened(t, 1, crashed(t, m.disk.Copy(), keep, torn)).State(); !alike(s, is) {
						t.Fatalf("behind: %+v, not %+v", s, is)
					}
					// It comes while the call is being done.
					d := ahead.Copy()
					if len(written) > 0 && d.Put("meta", written) != api.OK {
						t.Fatal(len(written))
					}
					keeps := keep >= d.Waits()
					if s := opened(t, 1, crashed(t, d, keep, torn)).State(); !alike(s, is) && (keeps || !alike(s, was)) {
						t.Fatalf("between: %+v, neither %+v nor %+v", s, was, is)
					}
					// It comes ahead of the call.
					if s := opened(t, 1, crashed(t, ahead.Copy(), keep, torn)).State(); !alike(s, was) {
						t.Fatalf("ahead: %+v, not %+v", s, was)
					}
				}
			}
		}
	}
}

// said is what a meta has answered.
type said struct {
	from             int
	ballot, accepted api.Ballot
}

// heard tells what metas answered to ballots that are drawn, prepared and accepted in any order, some of them to nobody.
func heard(t *testing.T, r *rand.Rand, metas, steps int) (prepared, accepted []said) {
	all := make([]*meta, metas)
	for i := range all {
		all[i] = begin(t, i+1)
	}
	for range steps {
		m := one(r, all...)
		m.stumble(t, r)
		b := drawBallot(r, 4)
		if r.IntN(2) == 0 {
			if p, e := m.Prepare(1, b); e == api.OK {
				prepared = append(prepared, said{p.From, b, p.Accepted})
			}
		} else if p, e := m.Accept(1, b, []byte(its(b))); e == api.OK && p.Accepted == b {
			accepted = append(accepted, said{p.From, b, b})
		}
	}
	return prepared, accepted
}

// from tells the metas that said something of a ballot, each once.
func from(l []said, b api.Ballot) []int {
	var nodes []int
	for _, x := range l {
		if x.ballot == b && !slices.Contains(nodes, x.from) {
			nodes = append(nodes, x.from)
		}
	}
	return nodes
}

// P9.7: of a majority that answers a higher ballot's Prepare one tells what a majority has accepted, or a higher one.
func TestMajority(t *testing.T) {
	r := rand.New(rand.NewPCG(9, 5))
	met := 0
	for i := range 1500 {
		metas := 1 + i%2*2
		prepared, accepted := heard(t, r, metas, 30)
		for _, x := range accepted {
			if len(from(accepted, x.ballot)) <= metas/2 {
				continue
			}
			for _, y := range prepared {
				if order(y.ballot, x.ballot) <= 0 {
					continue
				}
				// Those that tell of less are no majority.
				var lesser []said
				for _, z := range prepared {
					if z.ballot == y.ballot && order(z.accepted, x.ballot) < 0 {
						lesser = append(lesser, z)
					}
				}
				if len(from(lesser, y.ballot)) > metas/2 {
					t.Fatalf("%v was accepted, %+v", x.ballot, lesser)
				}
				if len(from(prepared, y.ballot)) > metas/2 {
					met++
				}
			}
		}
	}
	if met < 1000 {
		t.Error(met)
	}
}
