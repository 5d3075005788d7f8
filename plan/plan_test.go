package plan_test

import (
	"bytes"
	"encoding/binary"
	"math"
	"math/rand/v2"
	"reflect"
	"slices"
	"testing"

	"scrivener/api"
	"scrivener/plan"
)

// places tells a place for each node, each of the serial 1.
func places(nodes ...int) []api.Place {
	var l []api.Place
	for _, n := range nodes {
		l = append(l, api.Place{Node: n, Serial: 1})
	}
	return l
}

// frag tells a fragment.
func frag(first uint64, nodes ...int) api.Frag {
	return api.Frag{First: first, Bookies: places(nodes...)}
}

// frags tells fragments on two nodes, from these entries on.
func frags(firsts ...uint64) []api.Frag {
	var l []api.Frag
	for _, first := range firsts {
		l = append(l, frag(first, 7, 8))
	}
	return l
}

// base tells a plan that may be: of three channels one was never owned, one has four ledgers, the last one open, and one a single ledger, closed.
func base() api.Plan {
	return api.Plan{
		Version: 12, Next: 10,
		Channels: []api.Channel{
			{Epoch: 3, Owner: 4, Inc: 2, Renewed: 7, First: 5, Trim: 9, Ledgers: []uint64{2, 4, 5, 9},
				Seen:    []api.Mark{{Producer: 5, Seq: 1, Offset: 4}, {Producer: 6, Seq: 9, Offset: 2}},
				Cursors: []api.Cursor{{Sub: 1, At: 0}, {Sub: 3, At: 6}}},
			{Renewed: 1},
			{Epoch: 1, Owner: 5, Inc: 1, Trim: 8, Ledgers: []uint64{3}},
		},
		Ledgers: []api.Ledger{
			{Id: 2, W: 2, A: 1, Frags: frags(1), Closed: 1, Last: 3},
			{Id: 3, W: 1, A: 1, Frags: []api.Frag{frag(1, 7, 8, 9, 10, 11), frag(9, 7)}, Closed: 1, Last: 8},
			{Id: 4, W: 2, A: 2, Frags: frags(1, 4), Closed: 1},
			{Id: 5, W: 2, A: 2, Frags: frags(1, 2, 3), Closed: 1, Last: 1},
			{Id: 9, W: 2, A: 2, Frags: frags(1, 2), Closed: 0},
		},
		Past: []api.Past{
			{Who: 4, Inc: 2, N: 9, Outcome: api.Outcome{Code: 3, Epoch: 3, At: 1, Ledger: 9, Owner: 4}},
			{Who: 5, Inc: 1, N: 1},
		},
	}
}

// empty tells whether a plan is the zero one.
func empty(p api.Plan) bool { return reflect.ValueOf(p).IsZero() }

// equal tells whether two values are the same, as tests say it; that a list is nil or empty is the same.
func equal[T any](a, b T) bool {
	return reflect.DeepEqual(deep(reflect.ValueOf(a), 0).Interface(), deep(reflect.ValueOf(b), 0).Interface())
}

// The chapter's examples.
func TestExamples(t *testing.T) {
	p, e := plan.Start(1)
	if e != api.OK {
		t.Fatal(e)
	}
	want := []byte{0, 1, 1, 0, 0, 0, 0, 0, 0, 0, 0, 0, 0, 0}
	if b, e := plan.Encode(p); e != api.OK || !bytes.Equal(b, want) {
		t.Errorf("%X, %d", b, e)
	}
	if p, e := plan.Decode(nil); e != api.ErrForm || !empty(p) {
		t.Errorf("%v, %d", p, e)
	}
	for _, n := range []int{0, 4} {
		if p, e := plan.Start(n); e != api.ErrArg || !empty(p) {
			t.Errorf("%v, %d", p, e)
		}
	}
}

// The limits that the chapter's words speak of.
func TestLimits(t *testing.T) {
	got := []int{api.MaxNodes, api.MaxEntries, api.MaxBookies, api.MaxFrags, api.MaxChannels, api.MaxLedgers, api.MaxMarks, api.MaxSubs, int(api.ErrOld), api.MaxFrame}
	if want := []int{15, 8, 5, 6, 3, 8, 6, 3, 9, 16384}; !slices.Equal(got, want) || api.MaxCount != top {
		t.Errorf("%d, %d", got, uint64(api.MaxCount))
	}
}

// P7.1: the first plan has as many zero channels as was asked for, and nothing else; it may be.
func TestStart(t *testing.T) {
	for _, n := range []int{math.MinInt, math.MinInt32, -4, -3, -2, -1, 0, 1, 2, 3, 4, 5, 255, 257, 1 << 32, 1<<32 + 1, math.MaxInt} {
		p, e := plan.Start(n)
		if n < 1 || n > 3 {
			if e != api.ErrArg || !empty(p) {
				t.Errorf("Start(%d): %v, %d", n, p, e)
			}
			continue
		}
		want := api.Plan{Next: 1, Channels: make([]api.Channel, n)}
		if e != api.OK || !equal(p, want) || !plan.May(p) {
			t.Errorf("Start(%d): %v, %d", n, p, e)
		}
	}
}

// P7.2: fragments may be for W just if there are 1 to 6, each of which may be, from entry 1 on, rising.
func TestMayFrags(t *testing.T) {
	serial := func(n uint64) api.Frag { return api.Frag{First: 1, Bookies: []api.Place{{Node: 7, Serial: n}}} }
	cases := []struct {
		name string
		w    int
		l    []api.Frag
		want bool
	}{
		{"none", 1, nil, false},
		{"none for none", 0, []api.Frag{}, false},
		{"one", 2, frags(1), true},
		{"from 0 on", 2, frags(0), false},
		{"from 2 on", 2, frags(2), false},
		{"from 2 on, then 1", 2, frags(2, 1), false},
		{"two", 2, frags(1, 2), true},
		{"up to 9", 2, frags(1, 9), true},
		{"up to 10", 2, frags(1, 10), false},
		{"a wide First", 2, frags(1, 1<<32+2), false},
		{"the widest First", 2, frags(1, math.MaxUint64), false},
		{"six", 2, frags(1, 2, 3, 4, 8, 9), true},
		{"seven", 2, frags(1, 2, 3, 4, 5, 8, 9), false},
		{"twice 1", 2, frags(1, 1), false},
		{"twice 5", 2, frags(1, 5, 5), false},
		{"falling", 2, frags(1, 5, 4), false},
		{"falling, then rising", 2, frags(1, 5, 4, 6), false},
		{"0 behind 1", 2, frags(1, 0), false},
		{"W places", 5, []api.Frag{frag(1, 1, 2, 3, 4, 5)}, true},
		{"W and more places", 1, []api.Frag{frag(1, 1, 2, 3, 4, 5)}, true},
		{"fewer than W", 3, []api.Frag{frag(1, 1, 2)}, false},
		{"fewer than W in the second", 3, []api.Frag{frag(1, 1, 2, 3), frag(2, 1, 2)}, false},
		{"more than five", 1, []api.Frag{frag(1, 1, 2, 3, 4, 5, 6)}, false},
		{"six for six", 6, []api.Frag{frag(1, 1, 2, 3, 4, 5, 6)}, false},
		{"five for six", 6, []api.Frag{frag(1, 1, 2, 3, 4, 5)}, false},
		{"the greatest W", math.MaxInt, frags(1), false},
		{"no place for 1", 1, []api.Frag{frag(1)}, false},
		{"no place for 0", 0, []api.Frag{frag(1)}, true},
		{"no place for a W below 0", -1, []api.Frag{frag(1)}, true},
		{"places for the least W", math.MinInt, frags(1, 2), true},
		{"six places for 0", 0, []api.Frag{frag(1, 1, 2, 3, 4, 5, 6)}, false},
		{"nodes at the edges", 2, []api.Frag{frag(1, 1, 15)}, true},
		{"nodes that do not rise", 3, []api.Frag{frag(1, 9, 15, 2)}, true},
		{"node 0", 2, []api.Frag{frag(1, 0, 1)}, false},
		{"node 16", 2, []api.Frag{frag(1, 15, 16)}, false},
		{"node -1", 2, []api.Frag{frag(1, 3, -1)}, false},
		{"a wide node", 1, []api.Frag{frag(1, 1<<32+1)}, false},
		{"a node twice", 2, []api.Frag{frag(1, 3, 3)}, false},
		{"a node twice, apart", 1, []api.Frag{frag(1, 3, 4, 5, 3)}, false},
		{"a node twice in the second", 1, []api.Frag{frag(1, 3, 4), frag(2, 4, 5, 4)}, false},
		{"a node in both", 1, []api.Frag{frag(1, 3, 4), frag(2, 4, 3)}, true},
		{"a node twice, of two serials", 1, []api.Frag{{First: 1, Bookies: []api.Place{{Node: 7, Serial: 1}, {Node: 7, Serial: 2}}}}, false},
		{"serial 0", 1, []api.Frag{serial(0)}, false},
		{"serial 1", 1, []api.Frag{serial(1)}, true},
		{"the last serial", 1, []api.Frag{serial(top)}, true},
		{"beyond the last serial", 1, []api.Frag{serial(top + 1)}, false},
		{"the widest serial", 1, []api.Frag{serial(math.MaxUint64)}, false},
	}
	for _, c := range cases {
		if got := plan.MayFrags(c.w, c.l...); got != c.want {
			t.Errorf("%s: %v", c.name, got)
		}
		if fragsMay(c.w, c.l) != c.want {
			t.Errorf("%s: the model", c.name)
		}
	}
}

// P7.2: a ledger may be just if each of its parts may.
func TestMayLedger(t *testing.T) {
	for _, c := range []struct {
		name  string
		alter func(l *api.Ledger)
		want  bool
	}{
		{"as it is", func(l *api.Ledger) {}, true},
		{"Id 0", func(l *api.Ledger) { l.Id = 0 }, false},
		{"Id 1", func(l *api.Ledger) { l.Id = 1 }, true},
		{"the last Id", func(l *api.Ledger) { l.Id = top }, true},
		{"beyond the last Id", func(l *api.Ledger) { l.Id = top + 1 }, false},
		{"the widest Id", func(l *api.Ledger) { l.Id = math.MaxUint64 }, false},
		{"A 0", func(l *api.Ledger) { l.A = 0 }, false},
		{"A -1", func(l *api.Ledger) { l.A = -1 }, false},
		{"A 1", func(l *api.Ledger) { l.A = 1 }, true},
		{"A 3", func(l *api.Ledger) { l.A = 3 }, true},
		{"A above W", func(l *api.Ledger) { l.A = 4 }, false},
		{"W and A 0", func(l *api.Ledger) { l.W, l.A = 0, 0 }, false},
		{"W and A -1", func(l *api.Ledger) { l.W, l.A = -1, -1 }, false},
		{"W 0", func(l *api.Ledger) { l.W = 0 }, false},
		{"W 1", func(l *api.Ledger) { l.W, l.A = 1, 1 }, true},
		{"W 5 on four", func(l *api.Ledger) { l.W = 5 }, false},
		{"W 5 on five", func(l *api.Ledger) { l.W, l.Frags = 5, []api.Frag{frag(1, 1, 2, 3, 4, 5)} }, true},
		{"W and A 5", func(l *api.Ledger) { l.W, l.A, l.Frags = 5, 5, []api.Frag{frag(1, 1, 2, 3, 4, 5)} }, true},
		{"W 6 on six", func(l *api.Ledger) { l.W, l.Frags = 6, []api.Frag{frag(1, 1, 2, 3, 4, 5, 6)} }, false},
		{"no fragments", func(l *api.Ledger) { l.Frags = nil }, false},
		{"from 2 on", func(l *api.Ledger) { l.Frags[0].First = 2 }, false},
		{"too few places", func(l *api.Ledger) { l.Frags[1].Bookies = places(1, 2) }, false},
		{"Closed 0", func(l *api.Ledger) { l.Closed = 0 }, true},
		{"Closed 1", func(l *api.Ledger) { l.Closed = 1 }, true},
		{"Closed 2", func(l *api.Ledger) { l.Closed = 2 }, false},
		{"Closed -1", func(l *api.Ledger) { l.Closed = -1 }, false},
		{"closed, Last 8", func(l *api.Ledger) { l.Closed, l.Last = 1, 8 }, true},
		{"closed, Last 9", func(l *api.Ledger) { l.Closed, l.Last = 1, 9 }, false},
		{"closed, the widest Last", func(l *api.Ledger) { l.Closed, l.Last = 1, math.MaxUint64 }, false},
		{"open, Last 1", func(l *api.Ledger) { l.Closed, l.Last = 0, 1 }, false},
		{"open, Last 8", func(l *api.Ledger) { l.Closed, l.Last = 0, 8 }, false},
	} {
		l := api.Ledger{Id: 5, W: 3, A: 2, Frags: []api.Frag{frag(1, 7, 8, 9, 10), frag(2, 7, 8, 9, 10)}}
		c.alter(&l)
		if got := plan.MayLedger(l); got != c.want {
			t.Errorf("%s: %v", c.name, got)
		}
		if ledgerMay(l) != c.want {
			t.Errorf("%s: the model", c.name)
		}
	}
	if plan.MayLedger(api.Ledger{}) {
		t.Error("the zero one")
	}
}

// alteration is a plan that was altered, and whether it may be then.
type alteration struct {
	name  string
	alter func(p *api.Plan)
	want  bool
}

// look has each alteration made of the base, and looks whether May says what it should.
func look(t *testing.T, l []alteration) {
	t.Helper()
	for _, c := range l {
		p := base()
		c.alter(&p)
		if got := plan.May(p); got != c.want {
			t.Errorf("%s: %v", c.name, got)
		}
		if planMay(p) != c.want {
			t.Errorf("%s: the model", c.name)
		}
	}
}

// P7.2: a plan's own numbers, and its channels.
func TestMayPlan(t *testing.T) {
	look(t, []alteration{
		{"as it is", func(p *api.Plan) {}, true},
		{"the zero one", func(p *api.Plan) { *p = api.Plan{} }, false},
		{"Version 0", func(p *api.Plan) { p.Version = 0 }, true},
		{"the last Version", func(p *api.Plan) { p.Version = top }, true},
		{"beyond the last Version", func(p *api.Plan) { p.Version = top + 1 }, false},
		{"Next 0", func(p *api.Plan) { *p = api.Plan{Channels: p.Channels[1:2]} }, false},
		{"Next 1, no ledgers", func(p *api.Plan) { *p = api.Plan{Next: 1, Channels: p.Channels[1:2]} }, true},
		{"an Id of Next", func(p *api.Plan) { p.Next = 9 }, false},
		{"an Id above Next", func(p *api.Plan) { p.Next = 8 }, false},
		{"the last Next", func(p *api.Plan) { p.Next = top + 1 }, true},
		{"beyond the last Next", func(p *api.Plan) { p.Next = top + 2 }, false},
		{"the widest Next", func(p *api.Plan) { p.Next = math.MaxUint64 }, false},
		{"no channels", func(p *api.Plan) { p.Channels, p.Ledgers = nil, nil }, false},
		{"four channels", func(p *api.Plan) { p.Channels = append(p.Channels, api.Channel{}) }, false},
		{"two channels", func(p *api.Plan) { p.Channels = slices.Delete(p.Channels, 1, 2) }, true},
	})
}

// P7.2: ledgers rise, and each is named by just one channel, once.
func TestMayLedgers(t *testing.T) {
	look(t, []alteration{
		{"a ledger that may not be", func(p *api.Plan) { p.Ledgers[4].A = 0 }, false},
		{"the first one may not be", func(p *api.Plan) { p.Ledgers[0].Last = 9 }, false},
		{"two change places", func(p *api.Plan) { p.Ledgers[0], p.Ledgers[1] = p.Ledgers[1], p.Ledgers[0] }, false},
		{"one twice", func(p *api.Plan) { p.Ledgers = slices.Insert(p.Ledgers, 1, p.Ledgers[0]) }, false},
		{"one twice, named twice", func(p *api.Plan) {
			p.Ledgers = slices.Insert(p.Ledgers, 1, p.Ledgers[0])
			p.Channels[0].Ledgers = []uint64{2, 2, 4, 5, 9}
		}, false},
		{"one twice, named by two", func(p *api.Plan) {
			p.Ledgers = slices.Insert(p.Ledgers, 1, p.Ledgers[0])
			p.Channels[2].Ledgers = []uint64{2, 3}
		}, false},
		{"none names one", func(p *api.Plan) { p.Channels[2].Ledgers, p.Channels[2].Trim = nil, 0 }, false},
		{"none names the last one", func(p *api.Plan) { p.Channels[0].Ledgers = []uint64{2, 4, 5} }, false},
		{"two name one", func(p *api.Plan) { p.Channels[2].Ledgers = []uint64{2, 3} }, false},
		{"one names one twice", func(p *api.Plan) { p.Channels[2].Ledgers = []uint64{3, 3} }, false},
		{"one that is named is not there", func(p *api.Plan) { p.Channels[2].Ledgers = []uint64{3, 6} }, false},
		{"another one is named", func(p *api.Plan) { p.Channels[2].Ledgers, p.Channels[2].Trim = []uint64{6}, 0 }, false},
		{"one goes over", func(p *api.Plan) { p.Channels[0].Ledgers, p.Channels[2].Ledgers = []uint64{4, 5, 9}, []uint64{2, 3} }, true},
		{"an Id 0", func(p *api.Plan) {
			p.Ledgers = slices.Insert(p.Ledgers, 0, api.Ledger{W: 2, A: 1, Frags: frags(1), Closed: 1})
			p.Channels[0].Ledgers = []uint64{0, 2, 4, 5, 9}
		}, false},
	})
}

// P7.2: a channel's owner, and its ledgers.
func TestMayChannel(t *testing.T) {
	look(t, []alteration{
		{"Epoch 0, owned", func(p *api.Plan) { p.Channels[2].Epoch = 0 }, false},
		{"Epoch 0, an Owner", func(p *api.Plan) { p.Channels[1].Owner = 1 }, false},
		{"Epoch 0, an Inc", func(p *api.Plan) { p.Channels[1].Inc = 1 }, false},
		{"Epoch 0, a ledger", func(p *api.Plan) {
			p.Channels[1].Ledgers, p.Channels[2].Ledgers, p.Channels[2].Trim = []uint64{3}, nil, 0
		}, false},
		{"Epoch 0, offsets", func(p *api.Plan) {
			p.Channels[1] = api.Channel{Renewed: top, First: 3, Trim: 3, Seen: []api.Mark{{Producer: 1, Seq: 1}}, Cursors: []api.Cursor{{Sub: 2, At: 4}}}
		}, true},
		{"the last Epoch", func(p *api.Plan) { p.Channels[0].Epoch = top }, true},
		{"beyond the last Epoch", func(p *api.Plan) { p.Channels[0].Epoch = top + 1 }, false},
		{"the widest Epoch", func(p *api.Plan) { p.Channels[2].Epoch = math.MaxUint64 }, false},
		{"Owner 0", func(p *api.Plan) { p.Channels[0].Owner = 0 }, false},
		{"Owner -1", func(p *api.Plan) { p.Channels[0].Owner = -1 }, false},
		{"Owner 1", func(p *api.Plan) { p.Channels[0].Owner = 1 }, true},
		{"Owner 15", func(p *api.Plan) { p.Channels[0].Owner = 15 }, true},
		{"Owner 16", func(p *api.Plan) { p.Channels[0].Owner = 16 }, false},
		{"Inc 0", func(p *api.Plan) { p.Channels[0].Inc = 0 }, false},
		{"the last Inc", func(p *api.Plan) { p.Channels[0].Inc = top }, true},
		{"beyond the last Inc", func(p *api.Plan) { p.Channels[0].Inc = top + 1 }, false},
		{"the last Renewed", func(p *api.Plan) { p.Channels[0].Renewed = top }, true},
		{"beyond the last Renewed", func(p *api.Plan) { p.Channels[0].Renewed = top + 1 }, false},
		{"beyond the last Renewed, not owned", func(p *api.Plan) { p.Channels[1].Renewed = top + 1 }, false},
		{"ledgers that fall", func(p *api.Plan) { p.Channels[0].Ledgers = []uint64{4, 2, 5, 9} }, false},
		{"the open one is not the last", func(p *api.Plan) { p.Channels[0].Ledgers = []uint64{2, 4, 9, 5} }, false},
		{"one ahead of the last is open", func(p *api.Plan) { p.Ledgers[3].Closed, p.Ledgers[3].Last = 0, 0 }, false},
		{"the first one is open", func(p *api.Plan) { p.Ledgers[0].Closed, p.Ledgers[0].Last = 0, 0 }, false},
		{"all are closed", func(p *api.Plan) { p.Ledgers[4].Closed = 1 }, true},
		{"the only one is open", func(p *api.Plan) { p.Ledgers[1].Closed, p.Ledgers[1].Last = 0, 0 }, true},
	})
}

// eight tells a plan of a channel with eight ledgers, all closed, and the first entries, of nine.
func eight() api.Plan {
	p := api.Plan{Next: 9, Channels: []api.Channel{{Epoch: 1, Owner: 1, Inc: 1}}}
	for id := uint64(1); id <= 8; id++ {
		p.Channels[0].Ledgers = append(p.Channels[0].Ledgers, id)
		p.Ledgers = append(p.Ledgers, api.Ledger{Id: id, W: 2, A: 2, Frags: frags(1), Closed: 1, Last: 8})
	}
	return p
}

// P7.2: a channel names eight ledgers at most.
func TestMayEightLedgers(t *testing.T) {
	look(t, []alteration{
		{"eight", func(p *api.Plan) { *p = eight() }, true},
		{"nine", func(p *api.Plan) {
			*p = eight()
			p.Channels[0].Ledgers = append(p.Channels[0].Ledgers, 9)
			p.Ledgers = append(p.Ledgers, api.Ledger{Id: 9, W: 2, A: 2, Frags: frags(1), Closed: 1})
			p.Next = 10
		}, false},
		{"the ninth is another one's", func(p *api.Plan) {
			*p = eight()
			p.Channels = append(p.Channels, api.Channel{Epoch: 1, Owner: 1, Inc: 1, Ledgers: []uint64{9}})
			p.Ledgers = append(p.Ledgers, api.Ledger{Id: 9, W: 2, A: 2, Frags: frags(1), Closed: 1})
			p.Next = 10
		}, true},
		{"all that there may be", func(p *api.Plan) { *p = greatest() }, true},
	})
}

// P7.2: a channel's trim point stands from First to its closed end, and eight more while its last ledger is open; numbers are reckoned as they are.
func TestMayOffsets(t *testing.T) {
	bare := func(first, trim uint64) func(p *api.Plan) {
		return func(p *api.Plan) { p.Channels[1].First, p.Channels[1].Trim = first, trim }
	}
	ends := func(first, trim uint64) func(p *api.Plan) { // four entries, the last ledger open
		return func(p *api.Plan) { p.Channels[0].First, p.Channels[0].Trim = first, trim }
	}
	shut := func(first, trim uint64) func(p *api.Plan) { // eight entries, the last ledger closed
		return func(p *api.Plan) { p.Channels[2].First, p.Channels[2].Trim = first, trim }
	}
	look(t, []alteration{
		{"no ledgers, Trim at First", bare(7, 7), true},
		{"no ledgers, Trim ahead of First", bare(7, 6), false},
		{"no ledgers, Trim behind First", bare(7, 8), false},
		{"no ledgers, the last First", bare(top-8, top-8), true},
		{"no ledgers, beyond the last First", bare(top-7, top-7), false},
		{"no ledgers, First at MaxCount", bare(top, top), false},
		{"no ledgers, a First that eight more bring round", bare(math.MaxUint64-7, math.MaxUint64-7), false},
		{"no ledgers, the widest First", bare(math.MaxUint64, math.MaxUint64), false},
		{"open, Trim at First", ends(5, 5), true},
		{"open, Trim ahead of First", ends(5, 4), false},
		{"open, Trim at the closed end", ends(5, 9), true},
		{"open, Trim eight behind the closed end", ends(5, 17), true},
		{"open, Trim nine behind the closed end", ends(5, 18), false},
		{"open, the last First", ends(top-12, top), true},
		{"open, Trim above MaxCount", ends(top-12, top+1), false},
		{"open, beyond the last First", ends(top-11, top-11), false},
		{"open, a closed end that comes round", ends(math.MaxUint64-3, math.MaxUint64-3), false},
		{"open, a closed end that eight more bring round", ends(math.MaxUint64-4, math.MaxUint64-4), false},
		{"open, the widest First", ends(math.MaxUint64, math.MaxUint64), false},
		{"open, the widest First, a small Trim", ends(math.MaxUint64, 3), false},
		{"closed, Trim 0", shut(0, 0), true},
		{"closed, Trim at the closed end", shut(0, 8), true},
		{"closed, Trim behind the closed end", shut(0, 9), false},
		{"closed, Trim at First", shut(3, 3), true},
		{"closed, Trim ahead of First", shut(3, 2), false},
		{"closed, the last First", shut(top-16, top-8), true},
		{"closed, beyond the last First", shut(top-15, top-15), false},
		{"closed, a closed end that comes round", shut(math.MaxUint64-7, math.MaxUint64-7), false},
		{"closed, a closed end that eight more bring round", shut(math.MaxUint64-15, math.MaxUint64-15), false},
		{"the widest Trim", shut(0, math.MaxUint64), false},
	})
}

// P7.2: a channel's Seen and Cursors.
func TestMayMarks(t *testing.T) {
	seen := func(want bool, name string, l ...api.Mark) alteration {
		return alteration{name, func(p *api.Plan) { p.Channels[0].Seen = l }, want}
	}
	cursors := func(want bool, name string, l ...api.Cursor) alteration {
		return alteration{name, func(p *api.Plan) { p.Channels[0].Cursors = l }, want}
	}
	row := func(n int) []api.Mark {
		var l []api.Mark
		for i := range n {
			l = append(l, api.Mark{Producer: 2 * (i + 1), Seq: 3, Offset: uint64(i)})
		}
		return l
	}
	far := func(n int) alteration { // a First of 7, so that there are offsets for so many
		return alteration{"so many producers", func(p *api.Plan) {
			p.Channels[0].First = 7
			p.Channels[0].Seen = row(n)
		}, n <= 6}
	}
	look(t, []alteration{
		seen(true, "none"), far(1), far(5), far(6), far(7),
		seen(false, "producer 0", api.Mark{Producer: 0, Seq: 1}),
		seen(false, "producer -1", api.Mark{Producer: -1, Seq: 1}),
		seen(true, "producer 1", api.Mark{Producer: 1, Seq: 1}),
		seen(true, "producer 15", api.Mark{Producer: 15, Seq: 1}),
		seen(false, "producer 16", api.Mark{Producer: 16, Seq: 1}),
		seen(false, "a producer twice", api.Mark{Producer: 5, Seq: 1, Offset: 1}, api.Mark{Producer: 5, Seq: 2, Offset: 2}),
		seen(false, "producers that fall", api.Mark{Producer: 6, Seq: 1, Offset: 1}, api.Mark{Producer: 5, Seq: 1, Offset: 2}),
		seen(false, "Seq 0", api.Mark{Producer: 5}),
		seen(true, "the last Seq", api.Mark{Producer: 5, Seq: top}),
		seen(false, "beyond the last Seq", api.Mark{Producer: 5, Seq: top + 1}),
		seen(true, "an Offset below First", api.Mark{Producer: 5, Seq: 1, Offset: 4}),
		seen(false, "an Offset at First", api.Mark{Producer: 5, Seq: 1, Offset: 5}),
		seen(false, "the widest Offset", api.Mark{Producer: 5, Seq: 1, Offset: math.MaxUint64}),
		seen(false, "two Offsets alike", api.Mark{Producer: 5, Seq: 1, Offset: 3}, api.Mark{Producer: 6, Seq: 1, Offset: 3}),
		seen(false, "two Offsets alike, apart", api.Mark{Producer: 5, Seq: 1, Offset: 3}, api.Mark{Producer: 6, Seq: 1, Offset: 1}, api.Mark{Producer: 7, Seq: 1, Offset: 3}),
		seen(true, "Offsets that fall", api.Mark{Producer: 5, Seq: 2, Offset: 3}, api.Mark{Producer: 6, Seq: 2, Offset: 1}, api.Mark{Producer: 7, Seq: 2, Offset: 2}),
		cursors(true, "none"),
		cursors(true, "all three", api.Cursor{Sub: 1}, api.Cursor{Sub: 2, At: 900}, api.Cursor{Sub: 3, At: top}),
		cursors(false, "sub 0", api.Cursor{Sub: 0}),
		cursors(false, "sub -1", api.Cursor{Sub: -1}),
		cursors(false, "sub 4", api.Cursor{Sub: 4}),
		cursors(false, "a sub twice", api.Cursor{Sub: 2}, api.Cursor{Sub: 2}),
		cursors(false, "subs that fall", api.Cursor{Sub: 2}, api.Cursor{Sub: 1}),
		cursors(false, "beyond the last At", api.Cursor{Sub: 2, At: top + 1}),
		cursors(false, "the widest At", api.Cursor{Sub: 2, At: math.MaxUint64}),
	})
}

// P7.2: what came of somebody's last operation.
func TestMayPast(t *testing.T) {
	past := func(want bool, name string, alter func(x *api.Past)) alteration {
		return alteration{name, func(p *api.Plan) { alter(&p.Past[0]) }, want}
	}
	look(t, []alteration{
		{"none", func(p *api.Plan) { p.Past = nil }, true},
		past(true, "Who 1", func(x *api.Past) { x.Who = 1 }),
		past(false, "Who 0", func(x *api.Past) { x.Who = 0 }),
		past(false, "Who -1", func(x *api.Past) { x.Who = -1 }),
		past(false, "one twice", func(x *api.Past) { x.Who = 5 }),
		past(false, "falling", func(x *api.Past) { x.Who = 6 }),
		{"Who 15", func(p *api.Plan) { p.Past[1].Who = 15 }, true},
		{"Who 16", func(p *api.Plan) { p.Past[1].Who = 16 }, false},
		past(false, "Inc 0", func(x *api.Past) { x.Inc = 0 }),
		past(true, "the last Inc", func(x *api.Past) { x.Inc = top }),
		past(false, "beyond the last Inc", func(x *api.Past) { x.Inc = top + 1 }),
		past(false, "N 0", func(x *api.Past) { x.N = 0 }),
		past(true, "the last N", func(x *api.Past) { x.N = top }),
		past(false, "beyond the last N", func(x *api.Past) { x.N = top + 1 }),
		past(false, "Code -1", func(x *api.Past) { x.Outcome.Code = -1 }),
		past(true, "Code 0", func(x *api.Past) { x.Outcome.Code = 0 }),
		past(true, "Code 9", func(x *api.Past) { x.Outcome.Code = 9 }),
		past(false, "Code 10", func(x *api.Past) { x.Outcome.Code = 10 }),
		past(false, "Owner -1", func(x *api.Past) { x.Outcome.Owner = -1 }),
		past(true, "Owner 0", func(x *api.Past) { x.Outcome.Owner = 0 }),
		past(true, "Owner 15", func(x *api.Past) { x.Outcome.Owner = 15 }),
		past(false, "Owner 16", func(x *api.Past) { x.Outcome.Owner = 16 }),
		past(true, "the last Epoch, At, Ledger", func(x *api.Past) { x.Outcome.Epoch, x.Outcome.At, x.Outcome.Ledger = top, top, top }),
		past(false, "beyond the last Epoch", func(x *api.Past) { x.Outcome.Epoch = top + 1 }),
		past(false, "beyond the last At", func(x *api.Past) { x.Outcome.At = top + 1 }),
		past(false, "beyond the last Ledger", func(x *api.Past) { x.Outcome.Ledger = top + 1 }),
		past(true, "an outcome of nothing", func(x *api.Past) { x.Outcome = api.Outcome{} }),
		{"all nodes", func(p *api.Plan) { p.Past = greatest().Past }, true},
	})
}

// edges are numbers at which something ends.
func edges() []uint64 {
	l := []uint64{1<<32 + 1, 1 << 63}
	for i := uint64(0); i <= 17; i++ {
		l = append(l, i, top-17+i, -i)
	}
	return append(l, top+1, top+2)
}

// altered tells a plan, one of whose numbers, or lists, was altered.
func altered(d *rand.Rand, p api.Plan) api.Plan {
	p = twin(p)
	if d.IntN(4) > 0 {
		alterNumber(d, reflect.ValueOf(&p).Elem())
	} else {
		alterList(d, reflect.ValueOf(&p).Elem())
	}
	return p
}

// alterNumber alters one of a value's numbers.
func alterNumber(d *rand.Rand, v reflect.Value) {
	l, all := leaves(v), edges()
	x := l[d.IntN(len(l))]
	switch d.IntN(4) {
	case 0:
		setNumber(x, all[d.IntN(len(all))])
	case 1:
		setNumber(x, number(x)+uint64(1+d.IntN(9)))
	case 2:
		setNumber(x, number(x)-uint64(1+d.IntN(9)))
	default:
		setNumber(x, number(l[d.IntN(len(l))]))
	}
}

// alterList has one of a value's lists have one less, or one twice, or two of it change places.
func alterList(d *rand.Rand, v reflect.Value) {
	l := lists(v)
	x := l[d.IntN(len(l))]
	n := x.Len()
	if n == 0 {
		x.Set(reflect.Append(x, reflect.Zero(x.Type().Elem())))
		return
	}
	i, k := d.IntN(n), d.IntN(n)
	switch d.IntN(3) {
	case 0:
		x.Set(reflect.AppendSlice(x.Slice(0, i), x.Slice(i+1, n)))
	case 1:
		x.Set(reflect.Append(x, deep(x.Index(i), 0)))
	default:
		reflect.Swapper(x.Interface())(i, k)
	}
}

// says looks whether the package says of a plan what the model says of it.
func says(t *testing.T, p api.Plan) {
	t.Helper()
	want := planMay(p)
	if got := plan.May(p); got != want {
		t.Fatalf("May: %v of %+v", got, p)
	}
	said := bytesOf(p)
	b, e := plan.Encode(p)
	q, f := plan.Decode(said)
	if want && (e != api.OK || !bytes.Equal(b, said) || f != api.OK || !equal(p, q)) {
		t.Fatalf("Encode: %X, %d; Decode: %+v, %d; of %+v", b, e, q, f, p)
	}
	if !want && (e != api.ErrArg || len(b) > 0 || f != api.ErrForm || !empty(q)) {
		t.Fatalf("Encode: %X, %d; Decode: %+v, %d; of %+v", b, e, q, f, p)
	}
	for _, l := range p.Ledgers {
		if plan.MayLedger(l) != ledgerMay(l) {
			t.Fatalf("MayLedger of %+v", l)
		}
		for w := -1; w <= 6; w++ {
			if plan.MayFrags(w, l.Frags...) != fragsMay(w, l.Frags) {
				t.Fatalf("MayFrags for %d of %+v", w, l)
			}
		}
	}
}

// P7.2, P7.3: each number of a plan, altered to each edge: what the model says.
func TestEachNumber(t *testing.T) {
	p := base()
	for _, n := range leaves(reflect.ValueOf(&p).Elem()) {
		was := number(n)
		for _, x := range edges() {
			setNumber(n, x)
			says(t, p)
		}
		setNumber(n, was)
	}
	p = greatest()
	l := leaves(reflect.ValueOf(&p).Elem())
	for i := 0; i < len(l); i += 7 {
		was := number(l[i])
		for _, x := range edges() {
			setNumber(l[i], x)
			if plan.May(p) != planMay(p) {
				t.Fatalf("May of %+v", p)
			}
		}
		setNumber(l[i], was)
	}
}

// P7.2, P7.3: many plans that may be, and what becomes of them when they are altered: what the model says.
func TestManyPlans(t *testing.T) {
	d := rand.New(rand.NewPCG(7, 2))
	may, not := 0, 0
	for range 700 {
		p := drawPlan(d)
		if !planMay(p) {
			t.Fatalf("drawn: %+v", p)
		}
		says(t, p)
		for range 5 {
			q := altered(d, p)
			if d.IntN(3) == 0 {
				q = altered(d, q)
			}
			says(t, q)
			if planMay(q) {
				may++
			} else {
				not++
			}
		}
	}
	if may < 500 || not < 500 {
		t.Errorf("%d may be, %d not", may, not)
	}
}

// same looks whether Same says so, either way.
func same(t *testing.T, want bool, a, b api.Plan) {
	t.Helper()
	if plan.Same(a, b) != want || plan.Same(b, a) != want {
		t.Fatalf("Same: not %v of %+v and %+v", want, a, b)
	}
}

// P7.2: two plans are the same if all of their numbers and lists are.
func TestSame(t *testing.T) {
	for _, p := range []api.Plan{{}, base(), eight(), greatest()} {
		same(t, true, p, p)
		same(t, true, p, twin(p))
		same(t, true, p, roomy(p, 3))
		r := twin(p)
		for _, x := range leaves(reflect.ValueOf(&r).Elem()) {
			was := number(x)
			for _, by := range []uint64{1, 1 << 32, 1 << 63, math.MaxUint64} {
				setNumber(x, was+by)
				same(t, false, p, r)
			}
			setNumber(x, was)
		}
		for i, x := range lists(reflect.ValueOf(p)) {
			q := twin(p)
			y := lists(reflect.ValueOf(&q).Elem())[i]
			y.Set(reflect.Append(y, reflect.Zero(y.Type().Elem())))
			same(t, false, p, q)
			if x.Len() > 0 {
				q = twin(p)
				y = lists(reflect.ValueOf(&q).Elem())[i]
				y.Set(y.Slice(0, x.Len()-1))
				same(t, false, p, q)
			}
		}
	}
	d := rand.New(rand.NewPCG(7, 3))
	for range 1000 {
		p := drawPlan(d)
		q := altered(d, p)
		same(t, equal(p, q), p, q)
		same(t, equal(p, q), q, p)
	}
}

// P7.2: a list that is none, and one that is empty, are one.
func TestSameOfEmpty(t *testing.T) {
	none := api.Plan{Channels: []api.Channel{{}}, Ledgers: []api.Ledger{{Frags: []api.Frag{{}}}}}
	some := api.Plan{
		Channels: []api.Channel{{Ledgers: []uint64{}, Seen: []api.Mark{}, Cursors: []api.Cursor{}}},
		Ledgers:  []api.Ledger{{Frags: []api.Frag{{Bookies: []api.Place{}}}}},
		Past:     []api.Past{},
	}
	same(t, true, none, some)
	same(t, true, api.Plan{}, api.Plan{Channels: []api.Channel{}, Ledgers: []api.Ledger{}, Past: []api.Past{}})
	same(t, true, plan.Copy(none), some)
	same(t, true, plan.Copy(some), none)
	same(t, false, none, api.Plan{})
	a, _ := plan.Start(2)
	b := twin(a)
	b.Channels[1].Seen, b.Channels[0].Ledgers, b.Ledgers, b.Past = []api.Mark{}, []uint64{}, []api.Ledger{}, []api.Past{}
	x, _ := plan.Encode(a)
	y, e := plan.Encode(b)
	if e != api.OK || !bytes.Equal(x, y) {
		t.Errorf("%X, %X, %d", x, y, e)
	}
}

// P7.2: a copy is the same plan, of any plan.
func TestCopy(t *testing.T) {
	d := rand.New(rand.NewPCG(7, 4))
	l := []api.Plan{{}, base(), eight(), greatest()}
	for range 300 {
		p := drawPlan(d)
		l = append(l, p, altered(d, p), altered(d, altered(d, p)))
	}
	for _, p := range l {
		if c := plan.Copy(p); !equal(c, p) {
			t.Fatalf("%+v, not %+v", c, p)
		}
	}
}

// ledgersOf tells a plan of channels that name those ledgers.
func ledgersOf(first uint64, named []uint64, l ...api.Ledger) api.Plan {
	return api.Plan{Channels: []api.Channel{{First: 100, Ledgers: named[:len(named)/2]}, {First: first, Ledgers: named}}, Ledgers: l}
}

// asked looks whether Find, End and Open of a plan answer what the model says.
func asked(t *testing.T, p api.Plan) {
	t.Helper()
	is := func(name string, i int, l api.Ledger, ok bool) {
		t.Helper()
		var want api.Ledger
		if i >= 0 {
			want = p.Ledgers[i]
		}
		if ok != (i >= 0) || !equal(l, want) {
			t.Fatalf("%s: %+v, %v, not %+v, of %+v", name, l, ok, want, p)
		}
	}
	ids := []uint64{0, 1, 2, 3, 1 << 63, math.MaxUint64}
	for _, l := range p.Ledgers {
		ids = append(ids, l.Id, l.Id+1, l.Id-1, l.Id+1<<32)
	}
	for _, id := range ids {
		l, ok := plan.Find(p, id)
		is("Find", found(p, id), l, ok)
	}
	for _, n := range []int{math.MinInt, -3, -2, -1, 0, 1, 2, 3, 4, 5, 1<<32 + 1, math.MaxInt} {
		end, i := uint64(0), -1
		if n >= 1 && n <= len(p.Channels) {
			end, _ = closedEnd(p, p.Channels[n-1])
			i = openAt(p, p.Channels[n-1])
		}
		if got := plan.End(p, n); got != end {
			t.Fatalf("End(%d): %d, not %d, of %+v", n, got, end, p)
		}
		l, ok := plan.Open(p, n)
		is("Open", i, l, ok)
	}
}

// P7.4: a ledger by its Id, a channel's closed end and its open ledger, of plans that may be.
func TestFind(t *testing.T) {
	p := base()
	for _, id := range []uint64{2, 3, 4, 5, 9} {
		if l, ok := plan.Find(p, id); !ok || l.Id != id || !plan.MayLedger(l) {
			t.Errorf("%d: %+v, %v", id, l, ok)
		}
	}
	if plan.End(p, 1) != 9 || plan.End(p, 2) != 0 || plan.End(p, 3) != 8 || plan.End(p, 4) != 0 || plan.End(p, 0) != 0 {
		t.Errorf("End: %d, %d, %d", plan.End(p, 1), plan.End(p, 2), plan.End(p, 3))
	}
	if l, ok := plan.Open(p, 1); !ok || !equal(l, p.Ledgers[4]) {
		t.Errorf("Open: %+v, %v", l, ok)
	}
	for _, n := range []int{-1, 0, 2, 3, 4} {
		if l, ok := plan.Open(p, n); ok || !reflect.ValueOf(l).IsZero() {
			t.Errorf("Open(%d): %+v, %v", n, l, ok)
		}
	}
	asked(t, p)
	asked(t, greatest())
	asked(t, api.Plan{})
	d := rand.New(rand.NewPCG(7, 5))
	for range 500 {
		p := drawPlan(d)
		asked(t, p)
		asked(t, altered(d, altered(d, p)))
	}
}

// P7.4: of plans that may not be, too.
func TestFindOfAny(t *testing.T) {
	shut := func(id, last uint64) api.Ledger { return api.Ledger{Id: id, W: int(last), Closed: 1, Last: last} }
	open := func(id, last uint64) api.Ledger { return api.Ledger{Id: id, A: int(last), Last: last} }
	for _, c := range []struct {
		name string
		p    api.Plan
		end  uint64
		open int // the number in the row of the open one; -1: none
	}{
		{"a Last as it stands", ledgersOf(5, []uint64{1}, shut(1, 99)), 104, -1},
		{"an open one's Last", ledgersOf(5, []uint64{1}, open(1, 99)), 104, 0},
		{"open ones ahead", ledgersOf(5, []uint64{1, 2}, open(1, 3), open(2, 4)), 12, 1},
		{"an open one ahead of a closed one", ledgersOf(5, []uint64{1, 2}, open(1, 3), shut(2, 4)), 12, -1},
		{"falling Ids", ledgersOf(5, []uint64{2, 1}, open(1, 3), open(2, 4)), 12, 0},
		{"an Id twice in the ledgers", ledgersOf(5, []uint64{1}, open(1, 3), shut(1, 4)), 8, 0},
		{"an Id twice, the closed one first", ledgersOf(5, []uint64{1}, shut(1, 3), open(1, 4)), 8, -1},
		{"an Id twice in the channel", ledgersOf(5, []uint64{1, 1}, open(1, 3)), 11, 0},
		{"one that is not there", ledgersOf(5, []uint64{1, 7}, open(1, 3)), 8, -1},
		{"one ahead that is not there", ledgersOf(5, []uint64{7, 1}, open(1, 3)), 8, 0},
		{"none is there", ledgersOf(5, []uint64{7, 8}), 5, -1},
		{"Id 0", ledgersOf(5, []uint64{0}, open(0, 3)), 8, 0},
		{"Id 0 that is not there", ledgersOf(5, []uint64{0}, open(1, 3)), 5, -1},
		{"no ledgers named", ledgersOf(5, nil, open(1, 3)), 5, -1},
		{"round", ledgersOf(math.MaxUint64, []uint64{1}, shut(1, 3)), 2, -1},
		{"round twice", ledgersOf(math.MaxUint64, []uint64{1, 2}, shut(1, math.MaxUint64), open(2, math.MaxUint64)), math.MaxUint64 - 2, 1},
	} {
		if got := plan.End(c.p, 2); got != c.end {
			t.Errorf("%s: End %d, not %d", c.name, got, c.end)
		}
		var want api.Ledger
		if c.open >= 0 {
			want = c.p.Ledgers[c.open]
		}
		if l, ok := plan.Open(c.p, 2); ok != (c.open >= 0) || !equal(l, want) {
			t.Errorf("%s: Open %+v, %v", c.name, l, ok)
		}
		asked(t, c.p)
	}
	five := api.Plan{Channels: []api.Channel{{First: 1}, {First: 2}, {First: 3}, {First: 4}, {First: 5, Ledgers: []uint64{3}}}, Ledgers: []api.Ledger{open(3, 2)}}
	if l, ok := plan.Open(five, 5); plan.End(five, 5) != 7 || plan.End(five, 4) != 4 || plan.End(five, 6) != 0 || !ok || l.Id != 3 {
		t.Error("five channels")
	}
	d := rand.New(rand.NewPCG(7, 6))
	for range 2000 {
		asked(t, drawAny(d))
	}
}

// drawAny draws a plan that may not be: its channels name ledgers that stand twice, or are not there, open or closed.
func drawAny(d *rand.Rand) api.Plan {
	p := api.Plan{Channels: make([]api.Channel, d.IntN(5))}
	for range d.IntN(8) {
		l := api.Ledger{Id: d.Uint64N(6), Closed: d.IntN(2), Last: edges()[d.IntN(len(edges()))]}
		l.Frags = frags(d.Uint64N(9))
		p.Ledgers = append(p.Ledgers, l)
	}
	for i := range p.Channels {
		c := &p.Channels[i]
		c.First = edges()[d.IntN(len(edges()))]
		for range d.IntN(6) {
			c.Ledgers = append(c.Ledgers, d.Uint64N(7))
		}
	}
	return p
}

// read looks whether Decode of bytes answers what the model says, and tells whether they are a plan's.
func read(t *testing.T, b []byte) bool {
	t.Helper()
	want, ok := planOf(b)
	p, e := plan.Decode(b)
	if (e == api.OK) != ok || !equal(p, want) || e != api.OK && e != api.ErrForm {
		t.Fatalf("%X: %+v, %d, not %+v, %v", b, p, e, want, ok)
	}
	return ok
}

// P7.3: bytes that are a plan's, but for a piece that is missing, or is one too much, are none.
func TestDecodePieces(t *testing.T) {
	d := rand.New(rand.NewPCG(7, 7))
	none := func(b []byte) {
		t.Helper()
		if p, e := plan.Decode(b); e != api.ErrForm || !empty(p) {
			t.Fatalf("%X: %+v, %d", b, p, e)
		}
	}
	none([]byte{})
	for _, p := range []api.Plan{base(), eight(), greatest(), drawPlan(d), drawPlan(d), drawPlan(d)} {
		b := bytesOf(p)
		for n := 0; n < len(b); n += 1 + len(b)/1000 {
			none(b[:n])
			read(t, b[n+1:])
		}
		for x := range 256 {
			none(append(slices.Clone(b), byte(x)))
			read(t, append([]byte{byte(x)}, b...))
		}
		none(slices.Concat(b, b))
		none(append(slices.Clone(b), make([]byte, 20000)...))
	}
}

// P7.3: of a plan's bytes with some of them altered, those are taken that are a plan's, and no others.
func TestDecodeAltered(t *testing.T) {
	d := rand.New(rand.NewPCG(7, 8))
	taken := 0
	for range 200 {
		whole := bytesOf(drawPlan(d))
		for range 60 {
			b := slices.Clone(whole)
			for range 1 + d.IntN(2) {
				i := d.IntN(len(b))
				switch d.IntN(4) {
				case 0:
					b = slices.Delete(b, i, i+1)
				case 1:
					b = slices.Insert(b, i, byte(d.IntN(256)))
				default:
					b[i] = byte(d.IntN(256))
				}
			}
			if read(t, b) {
				taken++
			}
		}
	}
	if taken < 500 {
		t.Errorf("%d taken", taken)
	}
}

// P7.3: each of a plan's numbers with a digit more than it has, with one beyond 64 bits, or another one by 2^32 or 2^63.
func TestDecodeNumbers(t *testing.T) {
	for _, p := range []api.Plan{base(), greatest()} {
		whole := bytesOf(p)
		l, ok := numbers(whole)
		if !ok {
			t.Fatal("no numbers")
		}
		at := 0
		for i, x := range l {
			own := binary.AppendUvarint(nil, x)
			ahead, behind := whole[:at], whole[at+len(own):]
			at += len(own)
			if i > 300 && i%7 > 0 { // there are many of the same kind
				continue
			}
			longer := append(slices.Clone(own), 0)
			longer[len(own)-1] |= 128
			wide := binary.AppendUvarint(nil, x|1<<63)
			wider := append(bytes.Repeat([]byte{255}, 9), 3)
			for _, c := range [][]byte{longer, wide, wider, binary.AppendUvarint(nil, math.MaxUint64), bytes.Repeat([]byte{255}, 11)} {
				if p, e := plan.Decode(slices.Concat(ahead, c, behind)); e != api.ErrForm || !empty(p) {
					t.Fatalf("behind %X: %X: %+v, %d", ahead, c, p, e)
				}
			}
			read(t, slices.Concat(ahead, binary.AppendUvarint(nil, x+1<<32), behind))
		}
	}
}

// P7.3: bytes that claim rows that nobody has the room for end as any others.
func TestDecodeClaims(t *testing.T) {
	for _, n := range []uint64{4, 1 << 20, 1 << 31, 1 << 32, 1 << 62, 1 << 63, math.MaxUint64} {
		many := binary.AppendUvarint(nil, n)
		for _, head := range [][]byte{
			{0, 1},                                                       // channels
			{0, 1, 1, 0, 0, 0, 0, 0, 0},                                  // a channel's ledgers
			{0, 1, 1, 0, 0, 0, 0, 0, 0, 0},                               // its Seen
			{0, 1, 1, 0, 0, 0, 0, 0, 0, 0, 0},                            // its Cursors
			{0, 1, 1, 0, 0, 0, 0, 0, 0, 0, 0, 0},                         // ledgers
			{0, 1, 1, 0, 0, 0, 0, 0, 0, 0, 0, 0, 1, 1, 1, 1, 0, 0},       // fragments
			{0, 1, 1, 0, 0, 0, 0, 0, 0, 0, 0, 0, 1, 1, 1, 1, 0, 0, 1, 1}, // places
			{0, 1, 1, 0, 0, 0, 0, 0, 0, 0, 0, 0, 0},                      // Past
		} {
			for _, size := range []int{0, 1, 100, 16000, 1 << 20} {
				for _, x := range []byte{0, 1} {
					b := slices.Concat(head, many, bytes.Repeat([]byte{x}, size))
					if p, e := plan.Decode(b); e != api.ErrForm || !empty(p) {
						t.Fatalf("%X, %d of %d: %+v, %d", head, size, x, p, e)
					}
				}
			}
		}
	}
}

// P7.6: there and back; unlike plans have unlike bytes; none has more than MaxFrame.
func TestThereAndBack(t *testing.T) {
	d := rand.New(rand.NewPCG(7, 9))
	known := map[string]api.Plan{}
	try := func(p api.Plan) {
		t.Helper()
		b, e := plan.Encode(p)
		if e == api.ErrArg && !planMay(p) {
			return
		}
		q, f := plan.Decode(b)
		if e != api.OK || f != api.OK || !equal(p, q) || !plan.Same(p, q) || len(b) > api.MaxFrame {
			t.Fatalf("%+v: %d, %d bytes; %+v, %d", p, e, len(b), q, f)
		}
		if c, e := plan.Encode(q); e != api.OK || !bytes.Equal(b, c) {
			t.Fatalf("%X, then %X, %d", b, c, e)
		}
		if r, ok := known[string(b)]; ok && !equal(p, r) {
			t.Fatalf("%+v and %+v have the bytes %X", p, r, b)
		}
		known[string(b)] = p
	}
	for _, p := range []api.Plan{base(), eight(), greatest()} {
		try(p)
		for range 500 {
			try(altered(d, p))
		}
	}
	for range 250 {
		p := drawPlan(d)
		try(p)
		for range 10 {
			try(altered(d, p))
		}
	}
	if len(known) < 1000 {
		t.Errorf("%d plans", len(known))
	}
}

// P7.6: a plan that has as much as there may be of everything has no more bytes than there may be.
func TestGreatest(t *testing.T) {
	p := greatest()
	b, e := plan.Encode(p)
	if e != api.OK || len(b) > api.MaxFrame || len(b) != len(bytesOf(p)) {
		t.Errorf("%d, %d bytes", e, len(b))
	}
	for i, x := range lists(reflect.ValueOf(p)) {
		q := twin(p)
		y := lists(reflect.ValueOf(&q).Elem())[i]
		y.Set(reflect.Append(y, deep(x.Index(x.Len()-1), 0)))
		if plan.May(q) {
			t.Errorf("list %d has room", i)
		}
	}
}

// P7.7: a channel's Trim is from First to its closed end, and eight more if its last ledger is open; that one alone is open.
func TestTrimAndOpen(t *testing.T) {
	d := rand.New(rand.NewPCG(7, 10))
	seen := 0
	for range 2000 {
		p := drawPlan(d)
		for d.IntN(2) == 0 {
			p = altered(d, p)
		}
		if !plan.May(p) {
			continue
		}
		seen++
		opens := map[uint64]bool{}
		for i, c := range p.Channels {
			most := plan.End(p, i+1)
			if l, ok := plan.Open(p, i+1); ok {
				opens[l.Id] = true
				most += 8
			}
			if c.First > c.Trim || c.Trim > most || most > top || most < c.First {
				t.Fatalf("channel %d of %+v", i+1, p)
			}
		}
		for _, l := range p.Ledgers {
			if opens[l.Id] != (l.Closed == 0) {
				t.Fatalf("ledger %d of %+v", l.Id, p)
			}
		}
	}
	if seen < 1000 {
		t.Errorf("%d plans", seen)
	}
}

// span is a piece of memory.
type span struct{ from, to uintptr }

// spans tells where the lists of values stand, with the room behind their ends.
func spans(values ...any) []span {
	var all []span
	for _, v := range values {
		for _, l := range lists(reflect.ValueOf(v)) {
			if n := uintptr(l.Cap()) * l.Type().Elem().Size(); n > 0 {
				all = append(all, span{l.Pointer(), l.Pointer() + n})
			}
		}
	}
	return all
}

// apart tells whether no two pieces of memory have a byte in common.
func apart(l []span) bool {
	slices.SortFunc(l, func(a, b span) int { return int(a.from) - int(b.from) })
	for i := 1; i < len(l); i++ {
		if l[i].from < l[i-1].to {
			return false
		}
	}
	return true
}

// calls has each call that is handed plans, or their parts, made of p, and tells what is answered.
func calls(p api.Plan) []any {
	var l []any
	add := func(v any) { l = append(l, v) }
	add(plan.Copy(p))
	b, _ := plan.Encode(p)
	add(b)
	q, _ := plan.Decode(b)
	add(q)
	plan.May(p)
	plan.Same(p, q)
	plan.Same(q, p)
	for i, g := range p.Ledgers {
		found, _ := plan.Find(p, g.Id)
		add(found)
		plan.MayLedger(g)
		plan.MayFrags(2, g.Frags...)
		plan.End(p, i+1)
	}
	for n := range 4 {
		open, _ := plan.Open(p, n)
		add(open)
	}
	return l
}

// P7.5: what is handed in stays, and the room behind a list's end; what is answered shares no memory with it, nor one list of it with another.
func TestMemory(t *testing.T) {
	d := rand.New(rand.NewPCG(7, 11))
	l := []api.Plan{{}, base(), eight(), greatest()}
	for range 30 {
		p := drawPlan(d)
		l = append(l, p, altered(d, p))
	}
	for _, p := range l {
		for _, room := range []int{0, 1, 5} {
			q := roomy(p, room)
			was := wholes(q)
			answers := calls(q)
			if !slices.Equal(wholes(q), was) {
				t.Fatalf("%+v was changed", p)
			}
			if !apart(spans(append(answers, q)...)) {
				t.Fatalf("what is answered of %+v shares memory", p)
			}
		}
	}
	for n := 1; n <= 3; n++ {
		a, _ := plan.Start(n)
		b, _ := plan.Start(n)
		if !apart(spans(a, b)) {
			t.Errorf("Start(%d) shares memory", n)
		}
	}
}

// wholes tells all numbers of a plan, those in the room behind lists' ends, too.
func wholes(p api.Plan) []uint64 {
	var l []uint64
	for _, x := range lists(reflect.ValueOf(p)) {
		l = append(l, uint64(x.Len()))
		for _, n := range leaves(x.Slice(0, x.Cap())) {
			l = append(l, number(n))
		}
	}
	return append(l, p.Version, p.Next)
}

// P7.5: what was decoded stays, whatever becomes of the bytes.
func TestDecodeKeepsNothing(t *testing.T) {
	for _, p := range []api.Plan{base(), greatest()} {
		b := bytesOf(p)
		room := append(slices.Clone(b), 1, 2, 3)[:len(b)]
		q, e := plan.Decode(room)
		if e != api.OK || !slices.Equal(room[:len(b)+3], append(b, 1, 2, 3)) {
			t.Fatalf("%d: the bytes were changed", e)
		}
		clear(room[:len(b)+3])
		if !equal(p, q) {
			t.Errorf("%+v, not %+v", q, p)
		}
	}
}

// P7.5: an answer is the caller's: what is done to it shows in no later one.
func TestAnswersAreApart(t *testing.T) {
	p := base()
	was := calls(p)
	for _, v := range calls(p) {
		for _, x := range lists(reflect.ValueOf(v)) {
			mark(x.Slice(0, x.Cap()))
		}
	}
	for i, v := range calls(p) {
		if !reflect.DeepEqual(v, was[i]) {
			t.Errorf("answer %d: %+v, not %+v", i, v, was[i])
		}
	}
	if !equal(p, base()) {
		t.Errorf("%+v", p)
	}
}
