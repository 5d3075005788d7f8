package proposer_test

import (
	"math"
	"math/rand/v2"
	"reflect"
	"slices"
	"testing"

	"scrivener/api"
	"scrivener/ops"
	"scrivener/plan"
	"scrivener/proposer"
)

// made tells a proposer that New makes.
func made(t *testing.T, node int, inc uint64, metas, channels int) api.Proposer {
	t.Helper()
	p, e := proposer.New(node, inc, metas, channels)
	if e != api.OK {
		t.Fatalf("New(%d, %d, %d, %d): %d", node, inc, metas, channels, e)
	}
	return p
}

// grab tells a life's operation, the first one.
func grab(who int, inc uint64) api.Op {
	return api.Op{Who: who, Inc: inc, N: 1, Kind: api.OpGrab, Channel: 1, Now: 5}
}

// bytesOf tells a plan's bytes.
func bytesOf(t *testing.T, p api.Plan) []byte {
	t.Helper()
	b, e := plan.Encode(p)
	if e != api.OK {
		t.Fatalf("%+v: %d", p, e)
	}
	return b
}

// grabbed tells the plan of one channel, as a life has grabbed it.
func grabbed(who int, inc uint64) api.Plan {
	came := api.Outcome{Epoch: 1, Owner: who}
	return api.Plan{Version: 1, Next: 1, Channels: []api.Channel{{Epoch: 1, Owner: who, Inc: inc, Renewed: 5}},
		Past: []api.Past{{Who: who, Inc: inc, N: 1, Outcome: came}}}
}

// says tells what an acceptor says of a ballot.
func says(from, kind int, b api.Ballot) api.Says { return api.Says{From: from, Kind: kind, Ballot: b} }

// refusal tells that an acceptor has promised another ballot.
func refusal(from int, b, promised api.Ballot) api.Says {
	return api.Says{From: from, Kind: api.SaysRefused, Ballot: b, Promised: promised}
}

// The examples of the chapter.
func TestExamples(t *testing.T) {
	b := bal(1, 4, 1)
	x := starts(t, made(t, 4, 1, 3, 1), 5, grab(4, 1))
	want := []api.Ask{{To: 1, Kind: 1, Ballot: b}, {To: 2, Kind: 1, Ballot: b}, {To: 3, Kind: 1, Ballot: b}}
	if x.p.Ballot != b || x.p.Phase != 1 || x.p.Since != 5 || x.p.Tries != 1 || x.p.High != 1 || !alike(x.asks, want) {
		t.Errorf("Start: %+v", x)
	}
	first := x.p
	if x = takes(t, x.p, 6, says(1, api.SaysPromise, b)); x.asks != nil {
		t.Errorf("a promise: %+v", x)
	}
	x = takes(t, x.p, 6, says(2, api.SaysPromise, b))
	for i := range want {
		want[i].Kind, want[i].Value = 2, bytesOf(t, grabbed(4, 1))
	}
	if !alike(x.asks, want) || x.p.Phase != 2 || x.p.Since != 5 {
		t.Errorf("two promises: %+v", x)
	}
	if x = takes(t, x.p, 7, says(3, api.SaysAccepted, b)); x.decided != nil {
		t.Errorf("accepted: %+v", x)
	}
	x = takes(t, x.p, 7, says(1, api.SaysAccepted, b))
	done := []api.Decided{{Op: grab(4, 1), Outcome: api.Outcome{Epoch: 1, Owner: 4}, Plan: grabbed(4, 1)}}
	if !alike(x.decided, done) || !proposer.Idle(x.p) || !alike(x.p, api.Proposer{Node: 4, Inc: 1, Metas: 3, Channels: 1, Ballot: b, High: 1, Since: 5}) {
		t.Errorf("accepted twice: %+v", x)
	}
	x = takes(t, first, 8, refusal(2, b, bal(7, 5, 1)))
	if x.p.Phase != 3 || x.asks != nil {
		t.Errorf("refused: %+v", x)
	}
	if x = ticks(t, x.p, 8+2); x.asks != nil {
		t.Errorf("ahead of the wait: %+v", x)
	}
	if x = ticks(t, x.p, 8+3); x.p.Ballot != bal(9, 4, 1) || len(x.asks) != 3 {
		t.Errorf("behind the wait: %+v", x)
	}
}

// P10.1: which proposers there are.
func TestNew(t *testing.T) {
	nodes := []int{math.MinInt, -1, 0, 1, 2, 3, 4, 5, 8, 14, 15, 16, 17, 1<<32 + 4, math.MaxInt}
	incs := []uint64{0, 1, 2, top - 1, top, top + 1, 1 << 63, 1<<64 - 1}
	metas := []int{math.MinInt, -3, -1, 0, 1, 2, 3, 4, 5, 15, 1<<32 + 1, math.MaxInt}
	channels := []int{math.MinInt, -1, 0, 1, 2, 3, 4, 1<<32 + 1, math.MaxInt}
	good := 0
	for _, node := range nodes {
		for _, inc := range incs {
			for _, m := range metas {
				for _, c := range channels {
					may := (m == 1 || m == 3) && node > m && node <= 15 && inc >= 1 && inc <= top && c >= 1 && c <= 3
					want, code := api.Proposer{}, api.ErrArg
					if may {
						want, code = api.Proposer{Node: node, Inc: inc, Metas: m, Channels: c}, api.OK
						good++
					}
					if p, e := proposer.New(node, inc, m, c); e != code || !alike(p, want) {
						t.Errorf("New(%d, %d, %d, %d): %+v, %d", node, inc, m, c, p, e)
					}
				}
			}
		}
	}
	if good != (7+5)*4*3 {
		t.Error(good)
	}
}

// full tells a proposer none of whose fields is zero.
func full() api.Proposer {
	return api.Proposer{Node: 4, Inc: 1, Metas: 3, Channels: 2, Ballot: bal(8, 4, 1), High: 9, Phase: 2, Op: grab(4, 1),
		Heard: []api.Promise{{From: 3, Promised: bal(1, 1, 1), Accepted: bal(2, 2, 2), Value: []byte("x")}}, Value: []byte("yz"),
		Outcome: api.Outcome{Code: api.ErrState, Epoch: 3, At: 4, Ledger: 5, Owner: 6}, Since: 70, Tries: 12}
}

// P10.2: what is tried.
func TestStart(t *testing.T) {
	for node := 4; node <= 15; node++ {
		for _, metas := range []int{1, 3} {
			for _, high := range []uint64{0, 1, 200, top - 1} {
				p := made(t, node, top, metas, 3)
				p.High = high
				o := api.Op{Who: 9, Inc: 4, N: 8, Kind: api.OpConfirm, Channel: 3, Epoch: 6} // somebody else's, too
				x := starts(t, p, 1<<64-1, o)
				b := bal(high+1, node, top)
				want := api.Proposer{Node: node, Inc: top, Metas: metas, Channels: 3, Ballot: b, High: high + 1, Phase: 1, Op: o, Since: 1<<64 - 1, Tries: 1}
				if x.e != api.OK || !alike(x.p, want) || len(x.asks) != metas {
					t.Errorf("%+v: %+v", p, x)
				}
				for i, a := range x.asks {
					if !alike(a, api.Ask{To: i + 1, Kind: api.AskPrepare, Ballot: b}) {
						t.Errorf("%+v: %+v", p, a)
					}
				}
			}
		}
	}
	p := full()
	p.Phase = 0
	x := starts(t, p, 3, grab(4, 1))
	if x.p.Tries != 1 || x.p.Ballot != bal(10, 4, 1) || x.p.Heard != nil || x.p.Value != nil || x.p.Outcome != (api.Outcome{}) || x.p.Since != 3 {
		t.Errorf("what was left: %+v", x)
	}
}

// P10.2: of several errors the first one; the proposer as it was.
func TestStartErrors(t *testing.T) {
	none := api.Op{}
	for _, c := range []struct {
		name  string
		phase int
		op    api.Op
		high  uint64
		node  int
		inc   uint64
		want  api.Errno
	}{
		{"idle", 0, grab(4, 1), 9, 4, 1, api.OK},
		{"the last round", 0, grab(4, 1), top - 1, 4, 1, api.OK},
		{"prepares", 1, grab(4, 1), 9, 4, 1, api.ErrState},
		{"accepts", 2, grab(4, 1), 9, 4, 1, api.ErrState},
		{"rests", 3, grab(4, 1), 9, 4, 1, api.ErrState},
		{"another phase", 4, grab(4, 1), 9, 4, 1, api.ErrState},
		{"a phase below", -1, grab(4, 1), 9, 4, 1, api.ErrState},
		{"a great phase", 1 << 32, grab(4, 1), 9, 4, 1, api.ErrState},
		{"rests, no operation", 3, none, 9, 4, 1, api.ErrState},
		{"rests, no operation, no round", 3, none, top, 4, 1, api.ErrState},
		{"rests, no round", 3, grab(4, 1), top, 4, 1, api.ErrState},
		{"no operation", 0, none, 9, 4, 1, api.ErrArg},
		{"an operation with too much", 0, api.Op{Who: 4, Inc: 1, N: 1, Kind: api.OpGrab, Channel: 1, At: 1}, 9, 4, 1, api.ErrArg},
		{"a channel that there never is", 0, api.Op{Who: 4, Inc: 1, N: 1, Kind: api.OpGrab, Channel: 4}, 9, 4, 1, api.ErrArg},
		{"no operation, no round", 0, none, top, 4, 1, api.ErrArg},
		{"no round", 0, grab(4, 1), top, 4, 1, api.ErrFull},
		{"beyond", 0, grab(4, 1), top + 1, 4, 1, api.ErrFull},
		{"far beyond", 0, grab(4, 1), 1<<64 - 1, 4, 1, api.ErrFull},
		{"no node", 0, grab(4, 1), 9, 0, 1, api.ErrFull},
		{"no such node", 0, grab(4, 1), 9, 16, 1, api.ErrFull},
		{"no life", 0, grab(4, 1), 9, 4, 0, api.ErrFull},
		{"no such life", 0, grab(4, 1), 9, 4, top + 1, api.ErrFull},
	} {
		p := full()
		p.Phase, p.High, p.Node, p.Inc = c.phase, c.high, c.node, c.inc
		x := starts(t, p, 500, c.op)
		if x.e != c.want || c.want != api.OK && (x.asks != nil || !alike(x.p, p)) {
			t.Errorf("%s: %+v", c.name, x)
		}
	}
}

// P10.3: Says that are left aside.
func TestAside(t *testing.T) {
	b := bal(8, 4, 1)
	p := full()
	p.Heard = []api.Promise{{From: 2}}
	stays := func(name string, p api.Proposer, s api.Says) {
		t.Helper()
		if x := takes(t, p, 99, s); !alike(x, told{p: p}) {
			t.Errorf("%s: %+v", name, x)
		}
	}
	for phase := -1; phase <= 4; phase++ {
		for kind := -1; kind <= 5; kind++ {
			p.Phase = phase
			p.Value = bytesOf(t, grabbed(4, 1))
			s := says(1, kind, b)
			for _, from := range []int{math.MinInt, -1, 0, 4, 5, 1<<32 + 1, math.MaxInt} {
				s := s
				s.From = from
				stays("no acceptor", p, s)
			}
			for _, other := range []api.Ballot{{}, bal(7, 4, 1), bal(9, 4, 1), bal(8, 5, 1), bal(8, 3, 1), bal(8, 4, 2), bal(8, 4, 0)} {
				s := s
				s.Ballot = other
				stays("another ballot", p, s)
			}
			heard := s
			heard.From = 2
			stays("heard", p, heard)
			alone := p
			alone.Metas, alone.Heard = 1, nil
			heard = s
			heard.From = 2
			stays("one acceptor", alone, heard)
			heeded := kind == 3 && phase != 0 || kind == 1 && phase == 1 || kind == 2 && phase == 2
			if !heeded {
				stays("another phase, or kind", p, s)
			} else if x := takes(t, p, 99, s); alike(x.p, p) {
				t.Errorf("Phase %d, Kind %d: %+v", phase, kind, x)
			}
		}
	}
}

// P10.3: SaysRefused: the round that it tells, and the wait anew.
func TestRefused(t *testing.T) {
	for _, phase := range []int{1, 2, 3, 7, -2} {
		for _, high := range []uint64{0, 1, 9, top - 1, top, top + 1, 1<<64 - 1} {
			for _, round := range []uint64{0, 1, 8, 9, 10, top - 1, top, top + 1, 1 << 63, 1<<64 - 1} {
				for _, now := range []uint64{0, 69, 70, 71, 1<<64 - 1} {
					p := full()
					p.Phase, p.High = phase, high
					x := takes(t, p, now, refusal(1, p.Ballot, bal(round, 15, 9)))
					want := p
					want.Phase, want.Since = 3, now
					if round <= top && round > high {
						want.High = round
					}
					if !alike(x, told{p: want}) {
						t.Errorf("%+v, %d: %+v", p, round, x)
					}
				}
			}
		}
	}
}

// P10.3: each refusal counts, in Phase 3, too, but for those of acceptors that were heard.
func TestRefusals(t *testing.T) {
	x := starts(t, made(t, 4, 1, 3, 1), 0, grab(4, 1))
	b := x.p.Ballot
	x = takes(t, x.p, 1, says(2, api.SaysPromise, b))
	x = takes(t, x.p, 2, refusal(1, b, bal(7, 5, 1)))
	x = takes(t, x.p, 3, refusal(2, b, bal(50, 5, 1)))
	x = takes(t, x.p, 4, refusal(3, b, bal(9, 5, 1)))
	x = takes(t, x.p, 5, refusal(1, b, bal(8, 5, 1)))
	x = takes(t, x.p, 6, says(3, api.SaysPromise, b))
	if x.p.High != 9 || x.p.Since != 5 || x.p.Phase != 3 || len(x.p.Heard) != 1 {
		t.Errorf("%+v", x.p)
	}
	if x = ticks(t, x.p, 8); x.p.Ballot != bal(11, 4, 1) || x.p.Tries != 2 || x.p.High != 11 {
		t.Errorf("%+v", x.p)
	}
}

// promised tells a promise of what was accepted.
func promised(from int, b, accepted api.Ballot, value []byte) api.Says {
	return api.Says{From: from, Kind: api.SaysPromise, Ballot: b, Accepted: accepted, Value: value}
}

// P10.3: SaysPromise: it is heard with what was accepted, and nothing else; nothing is asked ahead of a majority.
func TestPromise(t *testing.T) {
	x := starts(t, made(t, 4, 1, 3, 1), 0, grab(4, 1))
	b := x.p.Ballot
	s := promised(3, b, bal(1, 1, 1), []byte("any"))
	s.Promised = bal(9, 9, 9)
	x = takes(t, x.p, 1, s)
	if !alike(x.p.Heard, []api.Promise{{From: 3, Accepted: bal(1, 1, 1), Value: []byte("any")}}) || x.p.Phase != 1 || x.p.Since != 0 || x.asks != nil {
		t.Errorf("%+v", x)
	}
	// It says nothing of how it promised: a later one of the same acceptor is left aside, whatever it tells.
	if y := takes(t, x.p, 2, promised(3, b, bal(2, 1, 1), nil)); !alike(y.p, x.p) || y.asks != nil {
		t.Errorf("%+v", y)
	}
}

// P10.3: which plan is gone on from.
func TestGoesOn(t *testing.T) {
	five, six := bytesOf(t, grabbed(5, 1)), bytesOf(t, grabbed(6, 2))
	none := api.Ballot{}
	first, _ := plan.Start(2)
	for _, c := range []struct {
		name  string
		metas int
		l     []api.Says
		from  api.Plan
	}{
		{"nothing accepted", 3, []api.Says{promised(1, none, none, nil), promised(3, none, none, nil)}, first},
		{"nothing accepted, one meta", 1, []api.Says{promised(1, none, none, nil)}, first},
		{"a value without a ballot", 3, []api.Says{promised(1, none, none, five), promised(2, none, none, five)}, first},
		{"one", 3, []api.Says{promised(1, none, bal(1, 5, 1), five), promised(2, none, none, nil)}, grabbed(5, 1)},
		{"one, behind", 3, []api.Says{promised(1, none, none, nil), promised(2, none, bal(1, 5, 1), five)}, grabbed(5, 1)},
		{"one, one meta", 1, []api.Says{promised(1, none, bal(1, 5, 1), five)}, grabbed(5, 1)},
		{"the higher one ahead", 3, []api.Says{promised(2, none, bal(2, 5, 1), five), promised(1, none, bal(1, 6, 9), six)}, grabbed(5, 1)},
		{"the higher one behind", 3, []api.Says{promised(2, none, bal(2, 5, 9), five), promised(3, none, bal(2, 6, 1), six)}, grabbed(6, 2)},
		{"by lives", 3, []api.Says{promised(2, none, bal(2, 5, 2), five), promised(3, none, bal(2, 5, 1), six)}, grabbed(5, 1)},
		{"the first of two that are alike", 3, []api.Says{promised(2, none, bal(2, 5, 2), six), promised(1, none, bal(2, 5, 2), five)}, grabbed(6, 2)},
		{"bytes of no plan, lower", 3, []api.Says{promised(1, none, bal(2, 5, 1), five), promised(2, none, bal(1, 6, 1), []byte("none"))}, grabbed(5, 1)},
		{"bytes of no plan, without a ballot", 3, []api.Says{promised(1, none, none, []byte("none")), promised(2, none, bal(1, 6, 1), six)}, grabbed(6, 2)},
	} {
		o := grab(4, 1)
		o.Now = 90
		x := starts(t, made(t, 4, 1, c.metas, 2), 3, o)
		for i, s := range c.l {
			if len(x.asks) > 0 && i > 0 {
				t.Errorf("%s: ahead of a majority: %+v", c.name, x.asks)
			}
			s.Ballot = x.p.Ballot
			x = takes(t, x.p, 6, s)
		}
		q, came := ops.Apply(c.from, o)
		want := bytesOf(t, q)
		if x.p.Phase != 2 || x.p.Outcome != came || came.Code != api.OK || !slices.Equal(x.p.Value, want) || x.p.Heard != nil || x.p.Since != 3 || !slices.Equal(nodes(x.asks), []int{1, 2, 3}[:c.metas]) {
			t.Errorf("%s: %+v", c.name, x)
		}
		for _, a := range x.asks {
			if a.Kind != api.AskAccept || a.Ballot != x.p.Ballot || !slices.Equal(a.Value, want) {
				t.Errorf("%s: %+v", c.name, a)
			}
		}
	}
}

// P10.3: what was accepted is no plan: it waits; nothing is asked.
func TestNoPlan(t *testing.T) {
	good := bytesOf(t, grabbed(5, 1))
	for name, value := range map[string][]byte{"none": nil, "cut": good[:len(good)-1], "a byte behind": append(slices.Clone(good), 0), "bytes": []byte("none")} {
		x := starts(t, made(t, 4, 1, 3, 1), 3, grab(4, 1))
		b := x.p.Ballot
		x = takes(t, x.p, 4, promised(1, b, bal(1, 3, 1), good))
		x = takes(t, x.p, 9, promised(2, b, bal(1, 5, 1), value))
		if x.p.Phase != 3 || x.p.Since != 9 || x.asks != nil || x.p.High != 1 || len(x.p.Heard) != 2 || !ops.Same(x.p.Op, grab(4, 1)) {
			t.Errorf("%s: %+v", name, x)
		}
		if x = ticks(t, x.p, 12); x.p.Ballot != bal(3, 4, 1) || len(x.asks) != 3 {
			t.Errorf("%s, tried again: %+v", name, x)
		}
	}
	// A proposer whose first plan may not be.
	for _, channels := range []int{-1, 0, 4, math.MaxInt} {
		p := api.Proposer{Node: 4, Inc: 1, Metas: 1, Channels: channels}
		x := starts(t, p, 3, grab(4, 1))
		if x = takes(t, x.p, 9, says(1, api.SaysPromise, x.p.Ballot)); x.p.Phase != 3 || x.p.Since != 9 || x.asks != nil {
			t.Errorf("%d channels: %+v", channels, x)
		}
	}
}

// P10.3: what is refused, or known, or stale, is asked to be accepted, too, and decided.
func TestOutcomes(t *testing.T) {
	other := grab(4, 1)
	other.N = 2
	for _, c := range []struct {
		name    string
		from    api.Plan
		op      api.Op
		want    api.Outcome
		version uint64
	}{
		{"refused", grabbed(5, 1), grab(4, 1), api.Outcome{Code: api.ErrState, Epoch: 1, Owner: 5}, 2},
		{"known", grabbed(4, 1), grab(4, 1), api.Outcome{Epoch: 1, Owner: 4}, 1},
		{"another one", grabbed(4, 1), other, api.Outcome{Epoch: 2, Owner: 4}, 2},
		{"old", grabbed(4, 2), grab(4, 1), api.Outcome{Code: api.ErrOld}, 1},
		{"stale", grabbed(4, 1), api.Op{Who: 5, Inc: 1, N: 1, Kind: api.OpTrim, Channel: 1, Epoch: 7}, api.Outcome{Code: api.ErrStale, Epoch: 1, Owner: 4}, 1},
		{"no channel", grabbed(4, 1), api.Op{Who: 5, Inc: 1, N: 1, Kind: api.OpGrab, Channel: 2}, api.Outcome{Code: api.ErrNone}, 2},
	} {
		x := starts(t, made(t, 4, 1, 1, 1), 3, c.op)
		b := x.p.Ballot
		x = takes(t, x.p, 4, promised(1, b, bal(1, 5, 1), bytesOf(t, c.from)))
		if x.p.Phase != 2 || x.p.Outcome != c.want || len(x.asks) != 1 {
			t.Errorf("%s: %+v", c.name, x)
		}
		x = takes(t, x.p, 4, says(1, api.SaysAccepted, b))
		if len(x.decided) != 1 || x.decided[0].Outcome != c.want || x.decided[0].Plan.Version != c.version || !ops.Same(x.decided[0].Op, c.op) || !proposer.Idle(x.p) {
			t.Errorf("%s: %+v", c.name, x)
		}
	}
}

// P10.3: SaysAccepted: it is decided by a majority; then it is idle, and begins another one.
func TestAccepted(t *testing.T) {
	p := full()
	p.Value, p.Heard = bytesOf(t, grabbed(5, 1)), nil
	for _, l := range [][]int{{1, 2}, {3, 1}, {2, 3}, {2, 2, 2, 1}} {
		x := told{p: p}
		for i, from := range l {
			s := says(from, api.SaysAccepted, p.Ballot)
			s.Accepted, s.Value, s.Promised = bal(1, 1, 1), []byte("more"), bal(2, 2, 2) // of no meaning here
			x = takes(t, x.p, 100, s)
			if last := i == len(l)-1; last != (len(x.decided) == 1) || last != proposer.Idle(x.p) || x.asks != nil {
				t.Errorf("%v: %+v", l, x)
			}
			if i == 0 && !alike(x.p.Heard, []api.Promise{{From: from}}) {
				t.Errorf("%v: %+v", l, x.p.Heard)
			}
		}
		if !alike(x.decided, []api.Decided{{Op: p.Op, Outcome: p.Outcome, Plan: grabbed(5, 1)}}) {
			t.Errorf("%v: %+v", l, x.decided)
		}
		if !alike(x.p, api.Proposer{Node: 4, Inc: 1, Metas: 3, Channels: 2, Ballot: p.Ballot, High: 9, Since: 70}) {
			t.Errorf("%v: %+v", l, x.p)
		}
		if x = starts(t, x.p, 200, grab(4, 1)); x.p.Ballot != bal(10, 4, 1) || x.p.Tries != 1 {
			t.Errorf("%v: %+v", l, x.p)
		}
	}
	p.Metas = 1
	if x := takes(t, p, 100, says(1, api.SaysAccepted, p.Ballot)); len(x.decided) != 1 {
		t.Errorf("one meta: %+v", x)
	}
	// Bytes that are no plan's tell none.
	p.Value = []byte("none")
	if x := takes(t, p, 100, says(1, api.SaysAccepted, p.Ballot)); !alike(x.decided, []api.Decided{{Op: p.Op, Outcome: p.Outcome}}) {
		t.Errorf("no plan: %+v", x)
	}
}

// P10.3: of so many acceptors, who is a majority; three at most are asked.
func TestMetas(t *testing.T) {
	for _, metas := range []int{math.MinInt, -1, 0, 1, 2, 3, 4, 5, 9, math.MaxInt} {
		p := api.Proposer{Node: 12, Inc: 1, Metas: metas, Channels: 1}
		x := starts(t, p, 0, grab(12, 1))
		ask := []int{1, 2, 3}[:min(max(metas, 0), 3)]
		if !slices.Equal(nodes(x.asks), ask) {
			t.Errorf("%d metas: %v", metas, nodes(x.asks))
		}
		heard := 0
		for from := -1; from <= 11; from++ {
			y := takes(t, x.p, 0, says(from, api.SaysPromise, x.p.Ballot))
			if y.p.Phase == 1 && len(y.p.Heard) > len(x.p.Heard) || x.p.Phase == 1 && y.p.Phase == 2 {
				heard++
			}
			if y.p.Phase == 2 && x.p.Phase == 1 && (heard != metas/2+1 || !slices.Equal(nodes(y.asks), ask)) {
				t.Errorf("%d metas: %d heard, %v", metas, heard, nodes(y.asks))
			}
			x = y
		}
		if (x.p.Phase == 2) != (metas >= 1 && metas <= 9) {
			t.Errorf("%d metas: %+v", metas, x.p)
		}
	}
	// Who stands among those heard, but is no acceptor, or stands there twice, is no part of a majority.
	p := full()
	p.Phase = 1
	for _, froms := range [][]int{{0}, {4}, {-1, 5, 6}, {2, 2}, {4, 4}} {
		p.Heard = nil
		for _, from := range froms {
			p.Heard = append(p.Heard, api.Promise{From: from})
		}
		x := takes(t, p, 0, says(1, api.SaysPromise, p.Ballot))
		if (x.p.Phase == 2) != slices.Contains(froms, 2) {
			t.Errorf("%v: %+v", froms, x.p)
		}
	}
}

// P10.4, P10.5: the wait.
func TestWait(t *testing.T) {
	for node, want := range map[int]uint64{4: 3, 5: 4, 6: 5, 7: 6, 8: 3, 2: 5, 13: 4, 14: 5, 15: 6, 0: 3, -1: 6, -2: 5, -3: 4, -4: 3, -5: 6, math.MinInt: 3, math.MaxInt: 6} {
		p := full()
		p.Node = node
		if n := proposer.Wait(p); n != want {
			t.Errorf("node %d: %d", node, n)
		}
		if n := proposer.Wait(api.Proposer{Node: node}); n != want {
			t.Errorf("node %d: %d", node, n)
		}
		if node < 1 || node > 15 {
			continue
		}
		for _, since := range []uint64{0, 1, 70, 1<<64 - 10, 1<<64 - 1 - want} {
			p.Since = since
			for _, c := range []struct {
				now   uint64
				tries bool
			}{{since, false}, {since + 1, false}, {since + want - 1, false}, {since + want, true}, {max(since+want+1, since+want), true}, {1<<64 - 1, true}, {since - min(since, 1), false}, {since - min(since, want), false}, {0, false}} {
				x := ticks(t, p, c.now)
				if (x.asks != nil) != c.tries || !c.tries && !alike(x.p, p) || c.tries && x.p.Since != c.now {
					t.Errorf("node %d, since %d, now %d: %+v", node, since, c.now, x)
				}
			}
		}
	}
}

// P10.4: in which phases it tries, and what becomes of it.
func TestTick(t *testing.T) {
	for phase := -1; phase <= 5; phase++ {
		p := full()
		p.Phase = phase
		x := ticks(t, p, 73)
		if phase == 0 {
			if !alike(x, told{p: p}) {
				t.Errorf("idle: %+v", x)
			}
			continue
		}
		b := bal(9+12+1, 4, 1)
		want := api.Proposer{Node: 4, Inc: 1, Metas: 3, Channels: 2, Ballot: b, High: 22, Phase: 1, Op: p.Op, Since: 73, Tries: 13}
		if !alike(x, told{p: want, asks: []api.Ask{{To: 1, Kind: 1, Ballot: b}, {To: 2, Kind: 1, Ballot: b}, {To: 3, Kind: 1, Ballot: b}}}) {
			t.Errorf("Phase %d: %+v", phase, x)
		}
	}
}

// Words: the ballots of the tries of one operation, which lie ever further apart, to some end.
func TestTries(t *testing.T) {
	p := starts(t, made(t, 7, 1, 3, 1), 0, grab(7, 1)).p
	round := uint64(1)
	for i := 1; i <= 300; i++ {
		if p.Ballot != bal(round, 7, 1) || p.High != round || p.Tries != min(i, 255) || p.Since != uint64(i-1)*6 {
			t.Fatalf("the try %d: %+v", i, p)
		}
		round += uint64(min(i, 255)) + 1
		p = ticks(t, p, uint64(i)*6).p
	}
	for _, c := range []struct {
		high  uint64
		tries int
		round uint64 // 0: none
		then  int
	}{
		{9, 0, 10, 1}, {9, 253, 263, 254}, {9, 254, 264, 255}, {9, 255, 265, 255}, {9, 256, 266, 255}, {9, 1 << 40, 1<<40 + 10, 255},
		{top - 1, 0, top, 1}, {top - 1, 1, 0, 0}, {top, 0, 0, 0}, {top - 255, 254, top, 255}, {top - 255, 255, 0, 0}, {top, 255, 0, 0},
		{0, math.MaxInt, 0, 0}, {1<<64 - 1, 1, 0, 0}, {1<<64 - 1, 255, 0, 0}, {1<<64 - 255, 255, 0, 0}, {1 << 63, math.MaxInt, 0, 0},
		{9, -1, 9, 0}, {9, -8, 2, -7}, {9, -9, 1, -8}, {9, -10, 1, -9}, {0, -1, 1, 0}, {0, math.MinInt, 1, math.MinInt + 1},
		{top + 3, -4, top, -3}, {top + 3, -3, 0, 0}, {1<<63 + 7, math.MinInt, 8, math.MinInt + 1},
	} {
		p := full()
		p.High, p.Tries = c.high, c.tries
		x := ticks(t, p, 100)
		if c.round == 0 {
			if !alike(x, told{p: p}) {
				t.Errorf("%+v: %+v", c, x)
			}
			continue
		}
		if x.p.Ballot != bal(c.round, 4, 1) || x.p.High != c.round || x.p.Tries != c.then || len(x.asks) != 3 {
			t.Errorf("%+v: %+v", c, x)
		}
	}
	for _, c := range []struct {
		node int
		inc  uint64
	}{{0, 1}, {-4, 1}, {16, 1}, {4, 0}, {4, top + 1}} {
		p := full()
		p.Node, p.Inc = c.node, c.inc
		if x := ticks(t, p, 100); !alike(x, told{p: p}) {
			t.Errorf("%+v: %+v", c, x)
		}
	}
}

// P10.5: whether it is idle hangs on the phase alone.
func TestIdle(t *testing.T) {
	for _, phase := range []int{0, 1, 2, 3, 4, -1, 1 << 32, math.MinInt} {
		p := full()
		p.Phase = phase
		if proposer.Idle(p) != (phase == 0) || proposer.Idle(api.Proposer{Phase: phase}) != (phase == 0) {
			t.Errorf("Phase %d", phase)
		}
	}
}

// P10.5: two proposers are the same if each field is, a list by what stands in it.
func TestSame(t *testing.T) {
	same := func(want bool, a, b api.Proposer) {
		t.Helper()
		if proposer.Same(a, b) != want || proposer.Same(b, a) != want {
			t.Fatalf("%+v, %+v: not %v", a, b, want)
		}
	}
	p := full()
	p.Op = api.Op{Who: 1, Inc: 2, N: 3, Kind: 4, Channel: 5, Epoch: 6, Ledger: 7, At: 8, Now: 9, Sub: 10, W: 11, A: 12,
		Frags: []api.Frag{{First: 1, Bookies: []api.Place{{Node: 2, Serial: 3}}}}, Seen: []api.Mark{{Producer: 1, Seq: 2, Offset: 3}},
		From: api.Place{Node: 13, Serial: 14}, To: api.Place{Node: 15, Serial: 16}}
	same(true, p, twin(p))
	same(true, api.Proposer{}, api.Proposer{Heard: []api.Promise{}, Value: []byte{}, Op: api.Op{Frags: []api.Frag{}, Seen: []api.Mark{}}})
	same(true, api.Proposer{Heard: []api.Promise{{}}}, api.Proposer{Heard: []api.Promise{{Value: []byte{}}}})
	same(false, api.Proposer{Heard: []api.Promise{{}}}, api.Proposer{})
	same(false, api.Proposer{Value: []byte{0}}, api.Proposer{})
	n := 0
	walk(reflect.ValueOf(&p).Elem(), func(reflect.Value) { n++ })
	for i := range n {
		q, k := twin(p), 0
		walk(reflect.ValueOf(&q).Elem(), func(v reflect.Value) {
			if k == i {
				set(v, 77)
			}
			k++
		})
		same(false, p, q)
	}
	for i := range walk(reflect.ValueOf(p), func(reflect.Value) {}) {
		q := twin(p)
		l := walk(reflect.ValueOf(&q).Elem(), func(reflect.Value) {})[i]
		l.Set(l.Slice(0, l.Len()-1))
		same(false, p, q)
	}
	d := rand.New(rand.NewPCG(10, 1))
	for range 2000 {
		a := drawAny(d)
		b := altered(d, a)
		same(alike(a, b), a, b)
		same(true, b, twin(b))
	}
}

// P10.2 to P10.4: whatever the proposer, and whatever it is told: what the words say.
func TestDrawn(t *testing.T) {
	d := rand.New(rand.NewPCG(10, 2))
	seen := map[string]int{}
	for range 30000 {
		p := drawAny(d)
		s := drawSays(d, p)
		for range one(d, 0, 0, 0, 1, 2) {
			s = altered(d, s)
		}
		now := one(d, p.Since, p.Since+proposer.Wait(p), p.Since+proposer.Wait(p)-1, p.Since-1, d.Uint64N(200), 1<<64-1)
		o := drawOp(d, 4, 1, 1)
		if d.IntN(4) == 0 {
			o = altered(d, o)
		}
		x := starts(t, p, now, o)
		seen["Start "+[]string{"OK", "ErrArg", "", "ErrFull", "", "ErrState"}[x.e]]++
		if x = ticks(t, p, now); x.p.Since != p.Since {
			seen["Tick"]++
		}
		x = takes(t, p, now, s)
		switch {
		case len(x.decided) > 0:
			seen["decided"]++
		case x.p.Phase == 2 && p.Phase == 1:
			seen["proposed"]++
		case x.p.Phase == 3 && p.Phase == 1 && s.Kind == 1:
			seen["no plan"]++
		case x.p.Phase == 3 && s.Kind == 3:
			seen["refused"]++
		case len(x.p.Heard) > len(p.Heard):
			seen["heard"]++
		}
	}
	for _, name := range []string{"Start OK", "Start ErrArg", "Start ErrFull", "Start ErrState", "Tick", "decided", "proposed", "no plan", "refused", "heard"} {
		if seen[name] < 300 {
			t.Errorf("%s comes %d times", name, seen[name])
		}
	}
}
