package chain_test

import (
	"math"
	"math/rand/v2"
	"slices"
	"testing"

	"scrivener/api"
	"scrivener/chain"
	"scrivener/plan"
)

// P20.1: the offset behind the last entry that counts.
func TestLength(t *testing.T) {
	for _, x := range []struct {
		name    string
		p       api.Plan
		channel int
		sure    uint64
		want    uint64
	}{
		{"the chapter's", example(), 1, 1, 13},
		{"nothing sure", example(), 1, 0, 12},
		{"all sure", example(), 1, 8, 20},
		{"more sure than there may be", example(), 1, 9, 20},
		{"the greatest sure", example(), 1, math.MaxUint64, 20},
		{"closed at its end, nothing sure", single(10, 10, 2, 3), 1, 0, 15},
		{"closed at its end, sure of what is not there", single(10, 10, 2, 3), 1, 8, 15},
		{"closed without entries at its end", single(10, 10, 2, 0), 1, 8, 12},
		{"no ledgers", single(10, 10), 1, 8, 10},
		{"no ledgers from 0 on", single(0, 0), 1, 8, 0},
		{"one open ledger", single(0, 0, open), 1, 3, 3},
		{"one open ledger, nothing sure", single(0, 0, open), 1, 0, 0},
		{"one closed ledger", single(0, 0, 8), 1, 3, 8},
		{"eight ledgers", single(5, 60, 8, 8, 8, 8, 8, 8, 8, open), 1, 7, 68},
		{"the last offsets there are", single(top-12, top-8, 2, 2, open), 1, 8, top},
		{"the first of three channels", three(), 1, 2, 5},
		{"the second one, that nobody has", three(), 2, 2, 0},
		{"the third one, that is closed", three(), 3, 2, 113},
	} {
		if got := chain.Length(x.p, x.channel, x.sure); got != x.want {
			t.Errorf("%s: %d, not %d", x.name, got, x.want)
		}
	}
}

// P20.2: the spot of an offset from First on, below the length.
func TestFind(t *testing.T) {
	last := single(top-12, top-8, 2, 2, open)
	for _, x := range []struct {
		name         string
		p            api.Plan
		channel      int
		sure, offset uint64
		ledger, n    uint64 // 0: there is none
	}{
		{"the chapter's, 11", example(), 1, 1, 11, 3, 2},
		{"the chapter's, 12", example(), 1, 1, 12, 7, 1},
		{"the chapter's, 13", example(), 1, 1, 13, 0, 0},
		{"the chapter's, 9", example(), 1, 1, 9, 0, 0},
		{"the first one, that was trimmed", example(), 1, 1, 10, 3, 1},
		{"0", example(), 1, 1, 0, 0, 0},
		{"as a number in its ledger", example(), 1, 1, 2, 0, 0},
		{"not sure", example(), 1, 0, 12, 0, 0},
		{"the last one, all sure", example(), 1, 8, 19, 7, 8},
		{"behind it", example(), 1, 8, 20, 0, 0},
		{"behind it, sure of more", example(), 1, 9, 20, 0, 0},
		{"behind it, the greatest sure", example(), 1, math.MaxUint64, 20, 0, 0},
		{"the last one of those", example(), 1, math.MaxUint64, 19, 7, 8},
		{"the greatest offset", example(), 1, math.MaxUint64, math.MaxUint64, 0, 0},
		{"in a closed one, whatever is sure", single(10, 10, 2, 3), 1, 0, 14, 5, 3},
		{"behind a closed one, whatever is sure", single(10, 10, 2, 3), 1, 8, 15, 0, 0},
		{"behind empty ones", single(10, 10, 0, 0, 1), 1, 0, 10, 7, 1},
		{"of no ledgers", single(10, 10), 1, 8, 10, 0, 0},
		{"of one without entries", single(10, 10, 0), 1, 8, 10, 0, 0},
		{"of eight ledgers", single(5, 60, 8, 8, 8, 8, 8, 8, 8, open), 1, 7, 67, 17, 7},
		{"the first offset of its ledger", single(5, 60, 8, 8, 8, 8, 8, 8, 8, open), 1, 7, 61, 17, 1},
		{"the last offset there is", last, 1, 8, top - 1, 7, 8},
		{"behind the last offset", last, 1, 8, top, 0, 0},
		{"of another channel", three(), 1, 2, 100, 0, 0},
		{"of the first channel", three(), 1, 2, 4, 6, 2},
		{"of that which nobody has", three(), 2, 2, 0, 0, 0},
		{"of the third channel", three(), 3, 2, 108, 4, 1},
	} {
		want, e := api.Spot{Offset: x.offset, Ledger: x.ledger, N: x.n}, api.OK
		if x.ledger == 0 {
			want, e = api.Spot{}, api.ErrNone
		}
		if got, code := chain.Find(x.p, x.channel, x.sure, x.offset); got != want || code != e {
			t.Errorf("%s: %v, %d, not %v, %d", x.name, got, code, want, e)
		}
	}
}

// P20.2: the offset of an entry of a ledger of the channel that counts.
func TestOffset(t *testing.T) {
	const none = math.MaxUint64
	for _, x := range []struct {
		name      string
		p         api.Plan
		channel   int
		sure      uint64
		ledger, n uint64
		want      uint64
	}{
		{"the chapter's, 7 1", example(), 1, 1, 7, 1, 12},
		{"the chapter's, 7 2", example(), 1, 1, 7, 2, none},
		{"the first one", example(), 1, 1, 3, 1, 10},
		{"the last one of its ledger", example(), 1, 1, 3, 2, 11},
		{"behind it", example(), 1, 1, 3, 3, none},
		{"number 0", example(), 1, 1, 3, 0, none},
		{"number 0 of the open one", example(), 1, 1, 7, 0, none},
		{"of one without entries", example(), 1, 8, 5, 1, none},
		{"number 0 of that", example(), 1, 8, 5, 0, none},
		{"not sure", example(), 1, 0, 7, 1, none},
		{"the last one, all sure", example(), 1, 8, 7, 8, 19},
		{"behind it", example(), 1, 9, 7, 9, none},
		{"behind it, the greatest sure", example(), 1, math.MaxUint64, 7, 9, none},
		{"the greatest number", example(), 1, math.MaxUint64, 7, math.MaxUint64, none},
		{"a closed one, whatever is sure", single(10, 10, 2, 3), 1, 0, 5, 3, 14},
		{"behind a closed one, whatever is sure", single(10, 10, 2, 3), 1, 8, 5, 4, none},
		{"ledger 0", example(), 1, 8, 0, 1, none},
		{"a ledger that is not there", example(), 1, 8, 4, 1, none},
		{"the greatest ledger", example(), 1, 8, math.MaxUint64, 1, none},
		{"of the first channel", three(), 1, 2, 6, 2, 4},
		{"another channel's ledger", three(), 1, 2, 1, 1, none},
		{"that, of its own", three(), 3, 2, 1, 1, 100},
		{"the first channel's ledger", three(), 3, 8, 6, 1, none},
		{"of that which nobody has", three(), 2, 8, 6, 1, none},
		{"the last offset there is", single(top-12, top-8, 2, 2, open), 1, 8, 7, 8, top - 1},
	} {
		want, e := x.want, api.OK
		if want == none {
			want, e = 0, api.ErrNone
		}
		if got, code := chain.Offset(x.p, x.channel, x.sure, x.ledger, x.n); got != want || code != e {
			t.Errorf("%s: %d, %d, not %d, %d", x.name, got, code, want, e)
		}
	}
}

// P20.3: all spots, rising.
func TestAll(t *testing.T) {
	for _, x := range []struct {
		name    string
		p       api.Plan
		channel int
		sure    uint64
		want    [][3]uint64
	}{
		{"the chapter's", example(), 1, 1, [][3]uint64{{10, 3, 1}, {11, 3, 2}, {12, 7, 1}}},
		{"nothing sure", example(), 1, 0, [][3]uint64{{10, 3, 1}, {11, 3, 2}}},
		{"more sure", example(), 1, 3, [][3]uint64{{10, 3, 1}, {11, 3, 2}, {12, 7, 1}, {13, 7, 2}, {14, 7, 3}}},
		{"the greatest sure", single(0, 0, open), 1, math.MaxUint64, [][3]uint64{{0, 3, 1}, {1, 3, 2}, {2, 3, 3}, {3, 3, 4}, {4, 3, 5}, {5, 3, 6}, {6, 3, 7}, {7, 3, 8}}},
		{"closed at its end", single(10, 12, 1, 2), 1, 8, [][3]uint64{{10, 3, 1}, {11, 5, 1}, {12, 5, 2}}},
		{"no ledgers", single(10, 10), 1, 8, nil},
		{"no entries", single(10, 10, 0, 0, open), 1, 0, nil},
		{"the first of three channels", three(), 1, 1, [][3]uint64{{0, 2, 1}, {1, 2, 2}, {2, 2, 3}, {3, 6, 1}}},
		{"the second one, that nobody has", three(), 2, 8, nil},
		{"the third one", three(), 3, 8, [][3]uint64{{100, 1, 1}, {101, 1, 2}, {102, 1, 3}, {103, 1, 4}, {104, 1, 5}, {105, 1, 6}, {106, 1, 7}, {107, 1, 8}, {108, 4, 1}, {109, 5, 1}, {110, 5, 2}, {111, 5, 3}, {112, 5, 4}}},
	} {
		var want []api.Spot
		for _, s := range x.want {
			want = append(want, api.Spot{Offset: s[0], Ledger: s[1], N: s[2]})
		}
		if got := chain.All(x.p, x.channel, x.sure); !slices.Equal(got, want) {
			t.Errorf("%s: %v, not %v", x.name, got, want)
		}
	}
}

// P20.4: the first ledgers that are closed with all their entries below Trim, the next one, and First behind them.
func TestGone(t *testing.T) {
	for _, x := range []struct {
		name        string
		p           api.Plan
		channel     int
		next, first uint64
		want        []uint64
	}{
		{"the chapter's", example(), 1, 7, 12, []uint64{3, 5}},
		{"nothing trimmed", single(10, 10, 2, 0, open), 1, 3, 10, nil},
		{"one entry stays", single(10, 11, 2, 0, open), 1, 3, 10, nil},
		{"trimmed into the open one", single(10, 20, 2, 0, open), 1, 7, 12, []uint64{3, 5}},
		{"an empty one at First", single(10, 10, 0, 2, open), 1, 5, 10, []uint64{3}},
		{"empty ones at First", single(10, 10, 0, 0, 0, open), 1, 9, 10, []uint64{3, 5, 7}},
		{"an empty one behind one that stays", single(10, 11, 2, 0, 3), 1, 3, 10, nil},
		{"an empty one at First, from 0 on", single(0, 0, 0, open), 1, 5, 0, []uint64{3}},
		{"an open one alone", single(10, 10, open), 1, 3, 10, nil},
		{"an open one alone, trimmed", single(10, 18, open), 1, 3, 10, nil},
		{"no ledgers", single(10, 10), 1, 0, 10, nil},
		{"no ledgers, from 0 on", single(0, 0), 1, 0, 0, nil},
		{"all", single(10, 15, 2, 3), 1, 0, 15, []uint64{3, 5}},
		{"all but one entry", single(10, 14, 2, 3), 1, 5, 12, []uint64{3}},
		{"all, the last one empty", single(10, 12, 2, 0), 1, 0, 12, []uint64{3, 5}},
		{"one empty ledger", single(10, 10, 0), 1, 0, 10, []uint64{3}},
		{"into the second one of three", single(10, 14, 2, 3, 4), 1, 5, 12, []uint64{3}},
		{"up to the third one", single(10, 15, 2, 3, 4), 1, 7, 15, []uint64{3, 5}},
		{"eight", single(5, 69, 8, 8, 8, 8, 8, 8, 8, 8), 1, 0, 69, []uint64{3, 5, 7, 9, 11, 13, 15, 17}},
		{"seven, and an open one", single(5, 69, 8, 8, 8, 8, 8, 8, 8, open), 1, 17, 61, []uint64{3, 5, 7, 9, 11, 13, 15}},
		{"the last offsets there are", single(top-12, top, 2, 2, open), 1, 7, top - 8, []uint64{3, 5}},
		{"the first of three channels", three(), 1, 6, 3, []uint64{2}},
		{"the second one, that nobody has", three(), 2, 0, 0, nil},
		{"the third one", three(), 3, 4, 108, []uint64{1}},
	} {
		if got, next, first := chain.Gone(x.p, x.channel); !slices.Equal(got, x.want) || next != x.next || first != x.first {
			t.Errorf("%s: %d, %d, %d, not %d, %d, %d", x.name, got, next, first, x.want, x.next, x.first)
		}
	}
}

// P20.4: the Ids of all ledgers, of whichever channel, rising.
func TestKeep(t *testing.T) {
	start, _ := plan.Start(3)
	for _, x := range []struct {
		name string
		p    api.Plan
		want []uint64
	}{
		{"the chapter's", example(), []uint64{3, 5, 7}},
		{"of three channels", three(), []uint64{1, 2, 4, 5, 6}},
		{"the first plan", start, nil},
		{"no ledgers", single(10, 10), nil},
		{"one", single(10, 10, open), []uint64{3}},
		{"eight", single(5, 5, 8, 8, 8, 8, 8, 8, 8, 8), []uint64{3, 5, 7, 9, 11, 13, 15, 17}},
	} {
		if got := chain.Keep(x.p); !slices.Equal(got, x.want) {
			t.Errorf("%s: %d, not %d", x.name, got, x.want)
		}
	}
}

// nothing looks whether nothing is told of a channel: 0, none, ErrArg, ahead of ErrNone.
func nothing(t *testing.T, name string, p api.Plan, channel int) {
	t.Helper()
	for _, sure := range []uint64{0, 1, 8, math.MaxUint64} {
		if got := chain.Length(p, channel, sure); got != 0 {
			t.Errorf("%s: Length: %d", name, got)
		}
		if got := chain.All(p, channel, sure); len(got) > 0 {
			t.Errorf("%s: All: %v", name, got)
		}
		for x := range uint64(22) {
			if got, e := chain.Find(p, channel, sure, x); got != (api.Spot{}) || e != api.ErrArg {
				t.Errorf("%s: Find(%d): %v, %d", name, x, got, e)
			}
			if got, e := chain.Offset(p, channel, sure, x, 1); got != 0 || e != api.ErrArg {
				t.Errorf("%s: Offset(%d, 1): %v, %d", name, x, got, e)
			}
		}
	}
	if got, next, first := chain.Gone(p, channel); len(got) > 0 || next != 0 || first != 0 {
		t.Errorf("%s: Gone: %d, %d, %d", name, got, next, first)
	}
}

// P20.1 to P20.4: of channels that there are not nothing is told.
func TestOfNoChannel(t *testing.T) {
	start, _ := plan.Start(1)
	for _, p := range []api.Plan{example(), three(), start, single(10, 10)} {
		for _, channel := range []int{0, -1, len(p.Channels) + 1, 4, math.MinInt, math.MaxInt, math.MinInt + 1, 1 << 32, 1<<32 + 1} {
			nothing(t, "no channel", p, channel)
		}
	}
}

// P20.1 to P20.4: of plans that may not be nothing is told, of whichever channel.
func TestOfWrongPlans(t *testing.T) {
	for _, x := range []struct {
		name  string
		spoil func(p *api.Plan, c *api.Channel)
	}{
		{"no channels", func(p *api.Plan, c *api.Channel) { p.Channels = nil }},
		{"four channels", func(p *api.Plan, c *api.Channel) { p.Channels = append(p.Channels, api.Channel{}) }},
		{"a great Version", func(p *api.Plan, c *api.Channel) { p.Version = top + 1 }},
		{"Next not above all Ids", func(p *api.Plan, c *api.Channel) { p.Next = 6 }},
		{"Next 0", func(p *api.Plan, c *api.Channel) { p.Next = 0 }},
		{"nobody has it", func(p *api.Plan, c *api.Channel) { c.Epoch, c.Owner, c.Inc = 0, 0, 0 }},
		{"no owner", func(p *api.Plan, c *api.Channel) { c.Owner = 0 }},
		{"no life", func(p *api.Plan, c *api.Channel) { c.Inc = 0 }},
		{"Trim below First", func(p *api.Plan, c *api.Channel) { c.First, c.Trim = 1, 0 }},
		{"Trim behind what may be", func(p *api.Plan, c *api.Channel) { c.Trim = 12 }},
		{"a great First", func(p *api.Plan, c *api.Channel) { c.First, c.Trim = top-10, top-10 }},
		{"the greatest First", func(p *api.Plan, c *api.Channel) { c.First, c.Trim = math.MaxUint64-1, math.MaxUint64 }},
		{"a ledger twice", func(p *api.Plan, c *api.Channel) { c.Ledgers = []uint64{2, 2, 6} }},
		{"a ledger that is not there", func(p *api.Plan, c *api.Channel) { c.Ledgers = []uint64{2, 3, 6} }},
		{"a ledger that is not named", func(p *api.Plan, c *api.Channel) { c.Ledgers = []uint64{2} }},
		{"another channel's ledger", func(p *api.Plan, c *api.Channel) { c.Ledgers = []uint64{2, 5, 6} }},
		{"ledgers that fall", func(p *api.Plan, c *api.Channel) { c.Ledgers = []uint64{6, 2} }},
		{"Ids that fall", func(p *api.Plan, c *api.Channel) { slices.Reverse(p.Ledgers) }},
		{"an open one ahead", func(p *api.Plan, c *api.Channel) { p.Ledgers[1] = ledger(2, open) }},
		{"an open one with entries", func(p *api.Plan, c *api.Channel) { p.Ledgers[4].Last = 1 }},
		{"nine entries", func(p *api.Plan, c *api.Channel) { p.Ledgers[1].Last = 9 }},
		{"neither closed nor open", func(p *api.Plan, c *api.Channel) { p.Ledgers[1].Closed = 2 }},
		{"no fragment", func(p *api.Plan, c *api.Channel) { p.Ledgers[1].Frags = nil }},
		{"no copies", func(p *api.Plan, c *api.Channel) { p.Ledgers[1].W, p.Ledgers[1].A = 0, 0 }},
		{"a mark not below First", func(p *api.Plan, c *api.Channel) { c.Seen = []api.Mark{{Producer: 1, Seq: 1}} }},
		{"no such subscription", func(p *api.Plan, c *api.Channel) { c.Cursors = []api.Cursor{{Sub: 4}} }},
		{"no such operation", func(p *api.Plan, c *api.Channel) { p.Past = []api.Past{{Who: 16, Inc: 1, N: 1}} }},
	} {
		p := three()
		x.spoil(&p, &p.Channels[0])
		for channel := range 5 {
			nothing(t, x.name, p, channel)
		}
		if got := chain.Keep(p); len(got) > 0 {
			t.Errorf("%s: Keep: %d", x.name, got)
		}
	}
	nothing(t, "no plan", api.Plan{}, 1)
	if got := chain.Keep(api.Plan{}); len(got) > 0 {
		t.Errorf("no plan: Keep: %d", got)
	}
}

// every looks at all that is told of a channel: of each offset about its row, and each entry of whichever ledger.
func every(t *testing.T, p api.Plan, channel int, sure uint64) {
	t.Helper()
	tells(t, p, channel, sure)
	var first uint64
	if there(p, channel) {
		first = p.Channels[channel-1].First
	}
	for at := first - 2; at != length(p, channel, sure)+10; at++ {
		finds(t, p, channel, sure, at)
	}
	for _, id := range append(keep(p), 0, p.Next) {
		for n := range uint64(11) {
			offsets(t, p, channel, sure, id, n)
		}
	}
}

// P20.1 to P20.4: of the plans of tables, and all that are of one channel with few ledgers of few entries, each offset, and each entry.
func TestEach(t *testing.T) {
	for _, p := range []api.Plan{example(), three(), single(top-12, top, 2, 2, open), single(5, 60, 8, 8, 8, 8, 8, 8, 8, open)} {
		for channel := range 5 {
			for sure := range uint64(11) {
				every(t, p, channel, sure)
			}
		}
	}
	var rows func(n int, ahead []int)
	rows = func(n int, ahead []int) {
		for _, last := range []int{0, 1, 2, open} {
			entries := append(slices.Clone(ahead), last)
			for trim := range uint64(7) {
				every(t, single(1, trim, entries...), 1, trim%3)
			}
			if n > 1 && last != open {
				rows(n-1, entries)
			}
		}
	}
	rows(3, nil)
}

// P20.1 to P20.4: whatever plan, that may be, or may not.
func TestOfAny(t *testing.T) {
	d := rand.New(rand.NewPCG(20, 1))
	codes, mays := map[api.Errno]int{}, map[bool]int{}
	for i := range 4000 {
		p := drawPlan(d)
		if !plan.May(p) {
			t.Fatalf("%+v", p)
		}
		if i%2 == 0 {
			p = altered(d, p)
		}
		mays[plan.May(p)]++
		channel := one(d, 1, 1, len(p.Channels), d.IntN(5))
		sure := drawSure(d)
		tells(t, p, channel, sure)
		for _, s := range append(all(p, channel, sure), api.Spot{}, api.Spot{Offset: edge(d), Ledger: edge(d), N: edge(d)}) {
			for _, by := range []uint64{0, 1, math.MaxUint64} {
				codes[finds(t, p, channel, sure, s.Offset+by)]++
				codes[offsets(t, p, channel, sure, s.Ledger, s.N+by)]++
			}
			codes[offsets(t, p, channel, sure, s.Ledger+1, s.N)]++
		}
	}
	if codes[api.OK] < 3000 || codes[api.ErrArg] < 3000 || codes[api.ErrNone] < 3000 || mays[true] < 2000 || mays[false] < 1000 {
		t.Error(codes, mays)
	}
}
