package proposer_test

import (
	"math/rand/v2"
	"slices"
	"testing"

	"scrivener/acceptor"
	"scrivener/api"
	"scrivener/disk"
	"scrivener/ops"
	"scrivener/plan"
	"scrivener/proposer"
)

// meta is an acceptor, as proposers hear of it.
type meta interface {
	hear(x api.Ask) (api.Says, bool)
	stumble(t *testing.T, d *rand.Rand)
}

// rule is an acceptor as P10.7 asks for one.
type rule struct {
	node               int
	promised, accepted api.Ballot
	value              []byte
}

func (r *rule) hear(x api.Ask) (api.Says, bool) {
	s := api.Says{From: r.node, Kind: api.SaysRefused, Ballot: x.Ballot}
	if below(x.Ballot, r.promised) {
		s.Promised = r.promised
		return s, true
	}
	r.promised = x.Ballot
	if x.Kind == api.AskPrepare {
		s.Kind, s.Accepted, s.Value = api.SaysPromise, r.accepted, slices.Clone(r.value)
		return s, true
	}
	s.Kind, r.accepted, r.value = api.SaysAccepted, x.Ballot, slices.Clone(x.Value)
	return s, true
}

func (r *rule) stumble(*testing.T, *rand.Rand) {}

// onDisk is an acceptor of layer 9.
type onDisk struct {
	*acceptor.Acceptor
	node int
	disk *disk.Disk
}

// begin tells an acceptor of layer 9, with a disk that may be too full at times.
func begin(t *testing.T, d *rand.Rand, node int) *onDisk {
	t.Helper()
	m := &onDisk{node: node}
	m.disk, _ = disk.New(one(d, 1000, 5000))
	m.open(t)
	return m
}

func (m *onDisk) open(t *testing.T) {
	t.Helper()
	a, e := acceptor.Open(m.node, m.disk)
	if e != api.OK {
		t.Fatal(e)
	}
	m.Acceptor = a
}

func (m *onDisk) hear(x api.Ask) (api.Says, bool) {
	s := api.Says{From: m.node, Kind: api.SaysRefused, Ballot: x.Ballot}
	if x.Kind == api.AskPrepare {
		p, e := m.Prepare(1, x.Ballot)
		if p.Promised == x.Ballot {
			s.Kind, s.Accepted, s.Value = api.SaysPromise, p.Accepted, p.Value
		} else {
			s.Promised = p.Promised
		}
		return s, e == api.OK
	}
	p, e := m.Accept(1, x.Ballot, x.Value)
	if p.Promised == x.Ballot && p.Accepted == x.Ballot {
		s.Kind = api.SaysAccepted
	} else {
		s.Promised = p.Promised
	}
	return s, e == api.OK
}

func (m *onDisk) stumble(t *testing.T, d *rand.Rand) {
	if d.IntN(20) == 0 {
		m.disk.Crash(d.IntN(3), d.IntN(30))
		m.disk.Start()
		m.open(t)
	}
	if d.IntN(20) == 0 {
		m.disk.Append("other", make([]byte, d.IntN(400)))
	}
	if d.IntN(5) == 0 {
		m.disk.Remove("other")
	}
}

// life is a node's life with its proposer, its clock, and how many operations it began.
type life struct {
	p      api.Proposer
	now, n uint64
}

// onWay is an ask, or what was said, on its way to a node.
type onWay struct {
	ask  api.Ask
	says api.Says
	to   int // whom it is said to; 0: it is asked
}

// proposal is what was asked to be accepted by a ballot: an operation, what came of it, and the plan's bytes then.
type proposal struct {
	ballot api.Ballot
	op     api.Op
	came   api.Outcome
	value  []byte
}

// ended is what was decided, and by which ballot.
type ended struct {
	ballot api.Ballot
	api.Decided
}

// play is a system of metas and proposers.
type play struct {
	t         *testing.T
	d         *rand.Rand
	channels  int
	metas     []meta
	lives     map[int]*life
	ways      []onWay
	proposals []proposal
	accepted  map[api.Ballot][]int // by which metas
	ended     []ended
}

// newPlay tells a system in which nothing was done.
func newPlay(t *testing.T, d *rand.Rand, metas, nodes int, real bool) *play {
	w := &play{t: t, d: d, channels: 1 + d.IntN(2), lives: map[int]*life{}, accepted: map[api.Ballot][]int{}}
	for i := range metas {
		if real {
			w.metas = append(w.metas, begin(t, d, i+1))
		} else {
			w.metas = append(w.metas, &rule{node: i + 1})
		}
	}
	for i := range nodes {
		w.lives[4+i] = &life{p: made(t, 4+i, 1, metas, w.channels)}
	}
	return w
}

// sends puts what a life asks on its way; what it asks to accept is kept.
func (w *play) sends(p api.Proposer, asks []api.Ask) {
	for i, x := range asks {
		w.ways = append(w.ways, onWay{ask: x})
		if x.Kind == api.AskAccept && i == 0 {
			w.proposals = append(w.proposals, proposal{x.Ballot, p.Op, p.Outcome, x.Value})
		}
	}
}

// start has an idle life begin an operation.
func (w *play) start(node int) api.Op {
	l := w.lives[node]
	l.n++
	o := drawOp(w.d, node, l.p.Inc, l.n)
	p, asks, e := proposer.Start(l.p, l.now, o)
	if e != api.OK {
		w.t.Fatalf("%+v: %d", o, e)
	}
	l.p = p
	w.sends(p, asks)
	return o
}

// tick has a life's clock go on.
func (w *play) tick(node int, by uint64) {
	l := w.lives[node]
	l.now += by
	p, asks := proposer.Tick(l.p, l.now)
	l.p = p
	w.sends(p, asks)
}

// deliver has what is on its way come.
func (w *play) deliver(x onWay) {
	if x.to == 0 {
		m := w.metas[x.ask.To-1]
		m.stumble(w.t, w.d)
		s, ok := m.hear(x.ask)
		if !ok {
			return
		}
		if s.Kind == api.SaysAccepted && !slices.Contains(w.accepted[s.Ballot], s.From) {
			w.accepted[s.Ballot] = append(w.accepted[s.Ballot], s.From)
		}
		w.ways = append(w.ways, onWay{says: s, to: x.ask.Ballot.Node})
		return
	}
	l := w.lives[x.to]
	p, asks, decided := proposer.Take(l.p, l.now, x.says)
	l.p = p
	w.sends(p, asks)
	for _, y := range decided {
		w.ended = append(w.ended, ended{x.says.Ballot, y})
	}
}

// take tells what is on its way at a place, which it is no more.
func (w *play) take(i int) onWay {
	x := w.ways[i]
	w.ways = slices.Delete(w.ways, i, i+1)
	return x
}

// step does anything: what is on its way comes, is lost, doubled, turned round; clocks go; lives end.
func (w *play) step() {
	node := 4 + w.d.IntN(len(w.lives))
	l := w.lives[node]
	switch x := w.d.IntN(40); {
	case x < 3 && proposer.Idle(l.p):
		w.start(node)
	case x < 8:
		w.tick(node, 1+w.d.Uint64N(4))
	case x == 8 && w.d.IntN(3) == 0:
		w.lives[node] = &life{p: made(w.t, node, l.p.Inc+1, len(w.metas), w.channels)}
	case len(w.ways) == 0:
	case x < 12:
		w.take(w.d.IntN(len(w.ways)))
	case x < 14 && len(w.ways) < 60:
		w.ways = append(w.ways, w.ways[w.d.IntN(len(w.ways))])
	case x < 24:
		w.deliver(w.take(w.d.IntN(len(w.ways))))
	default:
		w.deliver(w.take(0))
	}
}

// chosen tells whether a majority has accepted by a ballot.
func (w *play) chosen(b api.Ballot) bool { return 2*len(w.accepted[b]) > len(w.metas) }

// step is a plan on the way from the first one, with what was done to it.
type step struct {
	proposal
	plan api.Plan
	done []api.Op
}

// remembered tells whether a plan remembers an operation as its node's last one, and what came of it.
func remembered(p api.Plan, o api.Op) (api.Past, bool) {
	i := slices.IndexFunc(p.Past, func(x api.Past) bool { return x.Who == o.Who })
	if i < 0 {
		return api.Past{}, false
	}
	return p.Past[i], true
}

// follows tells the step that a proposal is, behind one of those.
func (w *play) follows(x proposal, l []step) (step, bool) {
	for _, s := range l {
		q, came := ops.Apply(s.plan, x.op)
		if b, _ := plan.Encode(q); came != x.came || !slices.Equal(b, x.value) {
			continue
		}
		done := slices.Clone(s.done)
		if q.Version > s.plan.Version {
			if slices.ContainsFunc(done, func(o api.Op) bool { return ops.Same(o, x.op) }) {
				w.t.Fatalf("%+v is done twice", x.op)
			}
			done = append(done, x.op)
		}
		return step{x, q, done}, true
	}
	return step{}, false
}

// chain looks whether what was chosen is a chain: whatever was asked behind what was chosen goes on from that. It tells the chosen ones.
func (w *play) chain() []step {
	first, _ := plan.Start(w.channels)
	slices.SortFunc(w.proposals, func(a, b proposal) int {
		if below(a.ballot, b.ballot) {
			return -1
		}
		return 1
	})
	l := []step{{plan: first}}
	var chosen []step
	for i, x := range w.proposals {
		if i > 0 && w.proposals[i-1].ballot == x.ballot {
			w.t.Fatalf("two proposals of %v", x.ballot)
		}
		s, ok := w.follows(x, l)
		if !ok {
			w.t.Fatalf("%+v goes on from none of %+v", x, l)
		}
		l = append(l, s)
		if w.chosen(x.ballot) {
			chosen = append(chosen, s)
			l = []step{s}
		}
	}
	return chosen
}

// holdsChain looks whether what was decided is what was chosen, and stands in all that was chosen behind it, once.
func (w *play) holdsChain() {
	chosen := w.chain()
	for i, s := range chosen {
		if i > 0 && s.plan.Version < chosen[i-1].plan.Version || uint64(len(s.done)) != s.plan.Version {
			w.t.Fatalf("%+v behind %+v", s, chosen)
		}
	}
	for _, x := range w.ended {
		i := slices.IndexFunc(chosen, func(s step) bool { return s.ballot == x.ballot })
		if i < 0 || !plan.Same(chosen[i].plan, x.Plan) || !ops.Same(chosen[i].op, x.Op) || chosen[i].came != x.Outcome {
			w.t.Fatalf("%+v is not what was chosen: %+v", x, chosen)
		}
		if c := x.Outcome.Code; c == api.ErrStale || c == api.ErrOld {
			continue
		}
		for _, s := range chosen[i:] {
			past, ok := remembered(s.plan, x.Op)
			here := func(o api.Op) bool { return ops.Same(o, x.Op) }
			if !ok || past.Inc < x.Op.Inc || past.Inc == x.Op.Inc && past.N < x.Op.N || !slices.ContainsFunc(s.done, here) {
				w.t.Fatalf("%+v is not in %+v", x, s)
			}
		}
	}
}

// P10.7: what is decided is a chain, whatever is lost, doubled, turned round.
func TestChain(t *testing.T) {
	d := rand.New(rand.NewPCG(10, 7))
	decided, between := 0, 0
	for i := range 1200 {
		w := newPlay(t, d, 1+i%4/2*2, 1+d.IntN(4), false)
		for range 400 {
			w.step()
		}
		w.holdsChain()
		decided += len(w.ended)
		for _, x := range w.proposals {
			if !w.chosen(x.ballot) {
				between++
			}
		}
	}
	if decided < 6000 || between < 2000 {
		t.Errorf("%d were decided, %d were asked for in vain", decided, between)
	}
}

// P10.7: so it is with layer 9's acceptors, whose disks crash and are full at times.
func TestChainOnDisks(t *testing.T) {
	d := rand.New(rand.NewPCG(10, 8))
	decided := 0
	for i := range 500 {
		w := newPlay(t, d, 1+i%4/2*2, 1+d.IntN(4), true)
		for range 400 {
			w.step()
		}
		w.holdsChain()
		decided += len(w.ended)
	}
	if decided < 2000 {
		t.Errorf("%d were decided", decided)
	}
}

// settle has all that is on its way come, in order.
func (w *play) settle() {
	for len(w.ways) > 0 {
		w.deliver(w.take(0))
	}
}

// P10.8: when all comes, in order, and one alone is not idle, its operation is decided by its next try, or the one behind it.
func TestGoesOnAlone(t *testing.T) {
	d := rand.New(rand.NewPCG(10, 9))
	tries := map[int]int{}
	for i := range 1500 {
		w := newPlay(t, d, 1+i%4/2*2, 2+d.IntN(3), false)
		for range d.IntN(150) {
			w.step()
		}
		node := 4 + d.IntN(len(w.lives))
		if proposer.Idle(w.lives[node].p) {
			w.start(node)
		}
		for other, l := range w.lives {
			if other != node && !proposer.Idle(l.p) {
				w.lives[other] = &life{p: made(t, other, l.p.Inc+1, len(w.metas), w.channels)}
			}
		}
		if d.IntN(2) == 0 {
			w.ways = nil
		}
		w.settle()
		n := 0
		for !proposer.Idle(w.lives[node].p) {
			if n++; n > 2 {
				t.Fatalf("%+v tries in vain", w.lives[node].p)
			}
			w.tick(node, proposer.Wait(w.lives[node].p))
			w.settle()
		}
		tries[n]++
		w.holdsChain()
	}
	if tries[1] < 100 || tries[2] < 50 {
		t.Error(tries)
	}
}

// P10.9: one alone, all of whose asks are answered, decides operations one behind the other as they are applied.
func TestAlone(t *testing.T) {
	d := rand.New(rand.NewPCG(10, 10))
	codes := map[api.Errno]int{}
	for i := range 200 {
		w := newPlay(t, d, 1+i%2*2, 1, false)
		p, _ := plan.Start(w.channels)
		for n := range 20 {
			o := w.start(4)
			w.settle()
			q, came := ops.Apply(p, o)
			if len(w.ended) != n+1 {
				t.Fatalf("%+v: %+v", o, w.ended)
			}
			if x := w.ended[n]; !ops.Same(x.Op, o) || x.Outcome != came || !plan.Same(x.Plan, q) || !proposer.Idle(w.lives[4].p) {
				t.Fatalf("%+v: %+v, not %+v, %+v", o, x, came, q)
			}
			if by := w.accepted[w.ended[n].ballot]; len(by) != len(w.metas) {
				t.Fatalf("%+v was accepted by %v", o, by)
			}
			p = q
			codes[came.Code]++
		}
	}
	if codes[api.OK] < 500 || codes[api.ErrStale] < 200 {
		t.Error(codes)
	}
}
