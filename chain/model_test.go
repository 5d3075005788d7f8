package chain_test

import (
	"math"
	"math/rand/v2"
	"slices"
	"testing"

	"scrivener/api"
	"scrivener/chain"
	"scrivener/plan"
)

// top is the greatest number that offsets and Ids may have.
const top = 1<<62 - 1

// Plans, as they stand in tables.

// open is what stands for how many entries a ledger has that is not closed.
const open = -1

// ledger tells a ledger that is closed with so many entries, or open.
func ledger(id uint64, entries int) api.Ledger {
	l := api.Ledger{Id: id, W: 1, A: 1, Frags: []api.Frag{{First: 1, Bookies: []api.Place{{Node: 7, Serial: 1}}}}}
	if entries != open {
		l.Closed, l.Last = 1, uint64(entries)
	}
	return l
}

// channel tells a channel of those ledgers, that somebody has.
func channel(first, trim uint64, ledgers ...uint64) api.Channel {
	return api.Channel{Epoch: 2, Owner: 4, Inc: 1, Renewed: 5, First: first, Trim: trim, Ledgers: ledgers}
}

// single tells a plan of one channel, whose ledgers have the Ids 3, 5, 7 and so on.
func single(first, trim uint64, entries ...int) api.Plan {
	p := api.Plan{Version: 9, Next: 40, Channels: []api.Channel{channel(first, trim)}}
	for i, n := range entries {
		id := uint64(3 + 2*i)
		p.Channels[0].Ledgers = append(p.Channels[0].Ledgers, id)
		p.Ledgers = append(p.Ledgers, ledger(id, n))
	}
	return p
}

// example is the chapter's plan.
func example() api.Plan { return single(10, 12, 2, 0, open) }

// three is a plan of three channels: the first one's ledgers are 2 and 6, nobody has the second one, the third one's are 1, 4 and 5.
func three() api.Plan {
	return api.Plan{Version: 1, Next: 7,
		Channels: []api.Channel{channel(0, 5, 2, 6), {}, channel(100, 108, 1, 4, 5)},
		Ledgers:  []api.Ledger{ledger(1, 8), ledger(2, 3), ledger(4, 1), ledger(5, 4), ledger(6, open)}}
}

// The model: a channel's row as the chapter's words say it, entry by entry, not by way of the package.

// there tells whether a plan may be, and has that channel.
func there(p api.Plan, channel int) bool {
	return plan.May(p) && channel > 0 && channel <= len(p.Channels)
}

// rowOf tells the entries of a channel that count, one behind the other.
func rowOf(p api.Plan, channel int, sure uint64) []api.Key {
	var row []api.Key
	for _, id := range p.Channels[channel-1].Ledgers {
		for _, l := range p.Ledgers {
			for n := uint64(1); n <= 8 && l.Id == id; n++ {
				if l.Closed == 1 && n <= l.Last || l.Closed == 0 && n <= sure {
					row = append(row, api.Key{Ledger: id, N: n})
				}
			}
		}
	}
	return row
}

// length tells what Length should answer.
func length(p api.Plan, channel int, sure uint64) uint64 {
	if !there(p, channel) {
		return 0
	}
	return p.Channels[channel-1].First + uint64(len(rowOf(p, channel, sure)))
}

// all tells what All should answer.
func all(p api.Plan, channel int, sure uint64) []api.Spot {
	var l []api.Spot
	if there(p, channel) {
		for i, k := range rowOf(p, channel, sure) {
			l = append(l, api.Spot{Offset: p.Channels[channel-1].First + uint64(i), Ledger: k.Ledger, N: k.N})
		}
	}
	return l
}

// missing tells the code where there is no such spot.
func missing(p api.Plan, channel int) api.Errno {
	if there(p, channel) {
		return 4
	}
	return 1
}

// find tells what Find should answer.
func find(p api.Plan, channel int, sure, offset uint64) (api.Spot, api.Errno) {
	for _, s := range all(p, channel, sure) {
		if s.Offset == offset {
			return s, 0
		}
	}
	return api.Spot{}, missing(p, channel)
}

// offset tells what Offset should answer.
func offset(p api.Plan, channel int, sure, ledger, n uint64) (uint64, api.Errno) {
	for _, s := range all(p, channel, sure) {
		if s.Ledger == ledger && s.N == n {
			return s.Offset, 0
		}
	}
	return 0, missing(p, channel)
}

// gone tells what Gone should answer.
func gone(p api.Plan, channel int) (ledgers []uint64, next, first uint64) {
	if !there(p, channel) {
		return nil, 0, 0
	}
	c := p.Channels[channel-1]
	stays := func(id uint64) bool {
		opened := slices.ContainsFunc(p.Ledgers, func(l api.Ledger) bool { return l.Id == id && l.Closed == 0 })
		above := slices.ContainsFunc(all(p, channel, 8), func(s api.Spot) bool { return s.Ledger == id && s.Offset >= c.Trim })
		return opened || above
	}
	first = c.First
	for _, id := range c.Ledgers {
		if stays(id) {
			return ledgers, id, first
		}
		ledgers = append(ledgers, id)
		for _, s := range all(p, channel, 8) {
			if s.Ledger == id {
				first = s.Offset + 1
			}
		}
	}
	return ledgers, 0, first
}

// keep tells what Keep should answer.
func keep(p api.Plan) []uint64 {
	var l []uint64
	if plan.May(p) {
		for _, c := range p.Channels {
			l = append(l, c.Ledgers...)
		}
	}
	slices.Sort(l)
	return l
}

// The calls, held against the model.

// finds has Find called, and looks at what it answers.
func finds(t *testing.T, p api.Plan, channel int, sure, at uint64) api.Errno {
	t.Helper()
	want, e := find(p, channel, sure, at)
	if got, code := chain.Find(p, channel, sure, at); got != want || code != e {
		t.Fatalf("%+v: Find(%d, %d, %d): %v, %d, not %v, %d", p, channel, sure, at, got, code, want, e)
	}
	return e
}

// offsets has Offset called, and looks at what it answers.
func offsets(t *testing.T, p api.Plan, channel int, sure, ledger, n uint64) api.Errno {
	t.Helper()
	want, e := offset(p, channel, sure, ledger, n)
	if got, code := chain.Offset(p, channel, sure, ledger, n); got != want || code != e {
		t.Fatalf("%+v: Offset(%d, %d, %d, %d): %d, %d, not %d, %d", p, channel, sure, ledger, n, got, code, want, e)
	}
	return e
}

// goes has Gone called, and looks at what it answers.
func goes(t *testing.T, p api.Plan, channel int) ([]uint64, uint64, uint64) {
	t.Helper()
	ledgers, next, first := gone(p, channel)
	l, n, f := chain.Gone(p, channel)
	if !slices.Equal(l, ledgers) || n != next || f != first {
		t.Fatalf("%+v: Gone(%d): %d, %d, %d, not %d, %d, %d", p, channel, l, n, f, ledgers, next, first)
	}
	return l, n, f
}

// tells has Length, All, Gone and Keep called, and looks at what they answer.
func tells(t *testing.T, p api.Plan, channel int, sure uint64) {
	t.Helper()
	if got, want := chain.Length(p, channel, sure), length(p, channel, sure); got != want {
		t.Fatalf("%+v: Length(%d, %d): %d, not %d", p, channel, sure, got, want)
	}
	if got, want := chain.All(p, channel, sure), all(p, channel, sure); !slices.Equal(got, want) {
		t.Fatalf("%+v: All(%d, %d): %v, not %v", p, channel, sure, got, want)
	}
	if got, want := chain.Keep(p), keep(p); !slices.Equal(got, want) {
		t.Fatalf("%+v: Keep: %d, not %d", p, got, want)
	}
	goes(t, p, channel)
}

// Plans of all kinds, drawn from a row of chance that is the same at each run.

// one draws one of a row.
func one[T any](d *rand.Rand, l ...T) T { return l[d.IntN(len(l))] }

// edge draws a number at which something may change.
func edge(d *rand.Rand) uint64 {
	return one(d, d.Uint64N(20), top-10+d.Uint64N(13), 1<<63-1+d.Uint64N(3), math.MaxUint64-d.Uint64N(10))
}

// drawSure draws how many entries are sure.
func drawSure(d *rand.Rand) uint64 { return one(d, d.Uint64N(9), d.Uint64N(9), edge(d)) }

// drawEntries draws how many entries ledgers have that stand one behind the other.
func drawEntries(d *rand.Rand) []int {
	l := make([]int, d.IntN(9))
	for i := range l {
		l[i] = one(d, 0, 8, d.IntN(9))
	}
	if len(l) > 0 && d.IntN(3) > 0 {
		l[len(l)-1] = open
	}
	return l
}

// drawTrim draws a trim point that a channel may have that begins there, often at a ledger's end.
func drawTrim(d *rand.Rand, first uint64, entries []int) uint64 {
	var ends []uint64
	end := first
	for _, n := range entries {
		if n == open {
			return one(d, append(ends, first, first+d.Uint64N(end-first+9), end, end+8)...)
		}
		end += uint64(n)
		ends = append(ends, end)
	}
	return one(d, append(ends, first, first+d.Uint64N(end-first+1))...)
}

// drawPlan draws a plan that may be, the Ids of whose channels' ledgers go through one another.
func drawPlan(d *rand.Rand) api.Plan {
	p := api.Plan{Version: 1 + d.Uint64N(9), Channels: make([]api.Channel, 1+d.IntN(3))}
	var rows [][]int // how many entries the ledgers of each channel have
	var turns []int  // whose ledger comes next
	for i := range p.Channels {
		rows = append(rows, drawEntries(d))
		turns = append(turns, slices.Repeat([]int{i}, len(rows[i]))...)
		entries := uint64(0)
		for _, n := range rows[i] {
			entries += uint64(max(n, 0))
		}
		first := one(d, 0, d.Uint64N(9), d.Uint64N(99), top-8-entries)
		p.Channels[i] = channel(first, drawTrim(d, first, rows[i]))
		if len(rows[i]) == 0 && d.IntN(2) == 0 {
			p.Channels[i] = api.Channel{First: first, Trim: first}
		}
	}
	d.Shuffle(len(turns), func(i, k int) { turns[i], turns[k] = turns[k], turns[i] })
	id := one(d, 0, d.Uint64N(50), top-24)
	for _, i := range turns {
		id++
		c := &p.Channels[i]
		p.Ledgers = append(p.Ledgers, ledger(id, rows[i][len(c.Ledgers)]))
		c.Ledgers = append(c.Ledgers, id)
	}
	p.Next = id + 1
	return p
}

// altered tells a plan of whose numbers and lists one is another one: most such plans may not be.
func altered(d *rand.Rand, p api.Plan) api.Plan {
	p = plan.Copy(p)
	c, x := &p.Channels[d.IntN(len(p.Channels))], edge(d)
	switch kind := d.IntN(14); {
	case kind < 5:
		*one(d, &p.Version, &p.Next, &c.Epoch, &c.First, &c.Trim) = x
	case kind == 5:
		c.Ledgers = append(c.Ledgers, one(d, x, p.Next-1))
	case kind == 6:
		p.Channels = slices.Repeat(p.Channels, 2)
	case kind == 7:
		slices.Reverse(c.Ledgers)
	case kind == 8:
		slices.Reverse(p.Ledgers)
	case len(c.Ledgers) > 0 && kind == 9:
		c.Ledgers = c.Ledgers[:len(c.Ledgers)-1]
	case len(c.Ledgers) > 0 && kind == 10:
		c.Ledgers[d.IntN(len(c.Ledgers))] = x
	case len(p.Ledgers) > 0 && kind == 11:
		p.Ledgers = p.Ledgers[1:]
	case len(p.Ledgers) > 0:
		l := &p.Ledgers[d.IntN(len(p.Ledgers))]
		l.Closed = one(d, l.Closed, 1-l.Closed, int(x))
		*one(d, &l.Id, &l.Last) = one(d, x, 0)
	}
	return p
}
