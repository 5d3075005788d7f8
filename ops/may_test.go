package ops_test

import (
	"math"
	"math/rand/v2"
	"reflect"
	"slices"
	"testing"

	"scrivener/api"
	"scrivener/ops"
)

// may looks whether May says of an operation what it should.
func may(t *testing.T, name string, o api.Op, want bool) {
	t.Helper()
	if got := ops.May(o); got != want {
		t.Errorf("kind %d, %s: %v: %+v", o.Kind, name, got, o)
	}
	if opMay(o) != want {
		t.Errorf("kind %d, %s: the model", o.Kind, name)
	}
}

// P8.1: whose operation it is, and of which kind.
func TestMayWho(t *testing.T) {
	may(t, "the zero one", api.Op{}, false)
	for _, kind := range []int{math.MinInt, -1, 0, 13, 14, 1<<32 + 1, math.MaxInt} {
		for _, like := range []int{api.OpGrab, api.OpConfirm, api.OpReplace} {
			o := good(like)
			o.Kind = kind
			may(t, "no kind", o, false)
		}
	}
	for kind := 1; kind <= 12; kind++ {
		may(t, "as it is", good(kind), true)
		for who, want := range map[int]bool{math.MinInt: false, -1: false, 0: false, 1: true, 15: true, 16: false, 1<<32 + 1: false} {
			o := good(kind)
			o.Who = who
			may(t, "Who", o, want)
		}
		for n, want := range map[uint64]bool{0: false, 1: true, top: true, top + 1: false, math.MaxUint64: false} {
			o := good(kind)
			o.Inc = n
			may(t, "Inc", o, want)
			o = good(kind)
			o.N = n
			may(t, "N", o, want)
		}
	}
}

// P8.1: what a kind names may be anything in its bounds, what it does not name is zero, or empty.
func TestMayNames(t *testing.T) {
	fields := []string{"Channel", "Epoch", "Ledger", "At", "Now", "Sub", "W", "A", "Frags", "Seen", "From", "To"}
	rows := map[int][]string{
		api.OpGrab: {"Channel", "Now"}, api.OpRenew: {"Channel", "Epoch", "Now"}, api.OpConfirm: {"Channel", "Epoch"},
		api.OpLedger: {"Channel", "Epoch", "W", "A", "Frags"}, api.OpChange: {"Channel", "Epoch", "Ledger", "Frags"},
		api.OpClose: {"Channel", "Epoch", "Ledger", "At", "Frags"}, api.OpTrim: {"Channel", "Epoch", "At"},
		api.OpForget: {"Channel", "Epoch", "Ledger", "Seen"}, api.OpAck: {"Channel", "Epoch", "Sub", "At"},
		api.OpSeek: {"Channel", "Epoch", "Sub", "At"}, api.OpCursor: {"Channel", "Epoch", "Sub"}, api.OpReplace: {"Ledger", "From", "To"},
	}
	for kind, names := range rows {
		for _, field := range fields {
			is := slices.Contains(names, field)
			o := good(kind)
			f := reflect.ValueOf(&o).Elem().FieldByName(field)
			switch field {
			case "Channel", "Sub", "W", "A":
				if is {
					continue // these have bounds of their own
				}
				for _, x := range []int{1, 2, 3, -1, math.MinInt, 1 << 32} {
					f.SetInt(int64(x))
					may(t, field, o, false)
				}
			case "Frags":
				f.Set(reflect.ValueOf([]api.Frag{}))
				may(t, "empty Frags", o, !is)
				if !is {
					f.Set(reflect.ValueOf(frags(1)))
					may(t, field, o, false)
					f.Set(reflect.ValueOf(make([]api.Frag, 1)))
					may(t, "a zero fragment", o, false)
				}
			case "Seen":
				f.Set(reflect.ValueOf([]api.Mark{}))
				may(t, "empty Seen", o, true)
				f.Set(reflect.ValueOf([]api.Mark{{Producer: 1, Seq: 1, Offset: 1}}))
				may(t, field, o, is)
			case "From", "To":
				f.Set(reflect.ValueOf(api.Place{}))
				may(t, "zero "+field, o, !is)
				f.Set(reflect.ValueOf(api.Place{Node: 2, Serial: 2}))
				may(t, field, o, is)
				if !is {
					f.Set(reflect.ValueOf(api.Place{Serial: 1}))
					may(t, field+"'s Serial", o, false)
					f.Set(reflect.ValueOf(api.Place{Node: -1}))
					may(t, field+"'s Node", o, false)
				}
			default:
				for x, ok := range map[uint64]bool{1: true, 7: true, top: true, top + 1: false, math.MaxUint64: false} {
					f.SetUint(x)
					may(t, field, o, is && ok)
				}
				f.SetUint(0)
				may(t, "no "+field, o, true)
			}
		}
	}
}

// P8.1: a channel, a subscription, where they are named.
func TestMayChannel(t *testing.T) {
	for kind := 1; kind <= 12; kind++ {
		for _, n := range []int{math.MinInt, -1, 0, 1, 2, 3, 4, 1<<32 + 1, math.MaxInt} {
			o := good(kind)
			o.Channel = n
			may(t, "Channel", o, n >= 1 && n <= 3 && kind != api.OpReplace || n == 0 && kind == api.OpReplace)
			o = good(kind)
			o.Sub = n
			is := kind == api.OpAck || kind == api.OpSeek || kind == api.OpCursor
			may(t, "Sub", o, n >= 1 && n <= 3 && is || n == 0 && !is)
		}
	}
}

// P8.1: fragments, and the copies of a new ledger.
func TestMayFrags(t *testing.T) {
	wide := func(n uint64) api.Frag { return api.Frag{First: 1, Bookies: []api.Place{{Node: 7, Serial: n}}} }
	for _, c := range []struct {
		name   string
		l      []api.Frag
		change bool // of OpChange, OpClose: where they stand in the ledger is not asked
		close  bool
	}{
		{"none", nil, false, false},
		{"one", frags(1), true, true},
		{"one from 0 on", frags(0), true, true},
		{"one from 9 on", frags(9), true, true},
		{"one from 10 on", frags(10), true, true},
		{"one from top on", frags(top), true, true},
		{"one from beyond top on", frags(top + 1), false, false},
		{"one from 2^64-1 on", frags(math.MaxUint64), false, false},
		{"two", frags(1, 2), false, true},
		{"two that fall", frags(2, 1), false, true},
		{"two, one too wide", frags(1, top+1), false, false},
		{"ten", frags(1, 2, 3, 4, 5, 6, 7, 8, 9, 10), false, true},
		{"no places", []api.Frag{{First: 1}}, true, true},
		{"many places", []api.Frag{frag(1, 1, 2, 3, 4, 5, 6, 7, 8, 9)}, true, true},
		{"a place twice", []api.Frag{frag(1, 1, 1)}, true, true},
		{"no nodes", []api.Frag{frag(1, -1, 16, math.MinInt)}, true, true},
		{"Serial 0", []api.Frag{wide(0)}, true, true},
		{"Serial top", []api.Frag{wide(top)}, true, true},
		{"Serial beyond top", []api.Frag{wide(top + 1)}, false, false},
		{"a Serial beyond top in the second", []api.Frag{wide(1), wide(math.MaxUint64)}, false, false},
	} {
		o := good(api.OpChange)
		o.Frags = c.l
		may(t, c.name, o, c.change)
		o = good(api.OpClose)
		o.Frags = c.l
		may(t, c.name, o, c.close)
	}
	for _, c := range []struct {
		name string
		w, a int
		l    []api.Frag
		want bool
	}{
		{"A 1", 2, 1, frags(1), true},
		{"A as W", 2, 2, frags(1), true},
		{"A above W", 2, 3, frags(1), false},
		{"A 0", 2, 0, frags(1), false},
		{"A below 0", 2, -1, frags(1), false},
		{"W 1", 1, 1, frags(1), true},
		{"W 0", 0, 0, frags(1), false},
		{"W 0, A 1", 0, 1, frags(1), false},
		{"W below 0", -1, -1, frags(1), false},
		{"W 5", 5, 5, []api.Frag{frag(1, 7, 8, 9, 10, 11)}, true},
		{"W 5, A 1", 5, 1, []api.Frag{frag(1, 7, 8, 9, 10, 11)}, true},
		{"W 6", 6, 1, []api.Frag{frag(1, 7, 8, 9, 10, 11, 12)}, false},
		{"the widest W", math.MaxInt, 1, frags(1), false},
		{"too few places", 3, 1, frags(1), false},
		{"six places", 1, 1, []api.Frag{frag(1, 7, 8, 9, 10, 11, 12)}, false},
		{"more places than W", 1, 1, []api.Frag{frag(1, 7, 8, 9, 10, 11)}, true},
		{"a node twice", 2, 1, []api.Frag{frag(1, 7, 7)}, false},
		{"node 0", 2, 1, []api.Frag{frag(1, 7, 0)}, false},
		{"node 16", 2, 1, []api.Frag{frag(1, 7, 16)}, false},
		{"nodes at the edges", 2, 1, []api.Frag{frag(1, 15, 1)}, true},
		{"Serial 0", 1, 1, []api.Frag{wide(0)}, false},
		{"Serial top", 1, 1, []api.Frag{wide(top)}, true},
		{"Serial beyond top", 1, 1, []api.Frag{wide(top + 1)}, false},
		{"from 0 on", 2, 1, frags(0), false},
		{"from 2 on", 2, 1, frags(2), false},
		{"two fragments", 2, 1, frags(1, 2), false},
		{"no fragment", 1, 1, nil, false},
	} {
		o := good(api.OpLedger)
		o.W, o.A, o.Frags = c.w, c.a, c.l
		may(t, c.name, o, c.want)
	}
}

// P8.1: marks that a channel may have, and places.
func TestMaySeen(t *testing.T) {
	row := func(producers ...int) []api.Mark {
		var l []api.Mark
		for i, n := range producers {
			l = append(l, api.Mark{Producer: n, Seq: 1, Offset: uint64(9 - i)})
		}
		return l
	}
	with := func(n uint64, producer int, seq, offset uint64) []api.Mark {
		return []api.Mark{{Producer: 2, Seq: 4, Offset: n}, {Producer: producer, Seq: seq, Offset: offset}}
	}
	for _, c := range []struct {
		name string
		l    []api.Mark
		want bool
	}{
		{"none", nil, true},
		{"six", row(1, 2, 3, 4, 5, 15), true},
		{"seven", row(1, 2, 3, 4, 5, 6, 7), false},
		{"many", slices.Repeat(row(1), 1000), false},
		{"producer 0", row(0, 1), false},
		{"producer -1", row(-1), false},
		{"producer 16", row(15, 16), false},
		{"twice one", row(3, 3), false},
		{"twice one, apart", row(3, 4, 3), false},
		{"falling", row(4, 3), false},
		{"falling at the end", row(4, 8, 7), false},
		{"Seq 0", with(1, 3, 0, 2), false},
		{"Seq top", with(1, 3, top, 2), true},
		{"Seq beyond top", with(1, 3, top+1, 2), false},
		{"the widest Seq", with(1, 3, math.MaxUint64, 2), false},
		{"one Seq", with(1, 3, 4, 2), true},
		{"one Offset", with(2, 3, 1, 2), false},
		{"one Offset, the widest", with(math.MaxUint64, 3, 1, math.MaxUint64), false},
		{"Offset 0", with(1, 3, 1, 0), true},
		{"a lesser Offset", with(7, 3, 1, 6), true},
		{"an Offset beyond top", with(1, 3, 1, top+1), true},
		{"the widest Offset", with(1, 3, 1, math.MaxUint64), true},
		{"one Offset, apart", append(with(7, 3, 1, 6), api.Mark{Producer: 4, Seq: 1, Offset: 7}), false},
	} {
		o := good(api.OpForget)
		o.Seen = c.l
		may(t, c.name, o, c.want)
	}
	for _, c := range []struct {
		name     string
		from, to api.Place
		want     bool
	}{
		{"two serials", api.Place{Node: 7, Serial: 1}, api.Place{Node: 7, Serial: 2}, true},
		{"two nodes", api.Place{Node: 1, Serial: 1}, api.Place{Node: 15, Serial: 1}, true},
		{"serials at the edge", api.Place{Node: 1, Serial: top}, api.Place{Node: 15, Serial: top}, true},
		{"the same", api.Place{Node: 7, Serial: 2}, api.Place{Node: 7, Serial: 2}, false},
		{"from node 0", api.Place{Serial: 1}, api.Place{Node: 7, Serial: 2}, false},
		{"to node 0", api.Place{Node: 7, Serial: 1}, api.Place{Serial: 1}, false},
		{"from node 16", api.Place{Node: 16, Serial: 1}, api.Place{Node: 7, Serial: 2}, false},
		{"to node 16", api.Place{Node: 7, Serial: 1}, api.Place{Node: 16, Serial: 1}, false},
		{"from node -1", api.Place{Node: -1, Serial: 1}, api.Place{Node: 7, Serial: 2}, false},
		{"to node -1", api.Place{Node: 7, Serial: 1}, api.Place{Node: -1, Serial: 1}, false},
		{"from serial 0", api.Place{Node: 7}, api.Place{Node: 7, Serial: 2}, false},
		{"to serial 0", api.Place{Node: 7, Serial: 1}, api.Place{Node: 8}, false},
		{"from beyond top", api.Place{Node: 7, Serial: top + 1}, api.Place{Node: 7, Serial: 2}, false},
		{"to beyond top", api.Place{Node: 7, Serial: 1}, api.Place{Node: 7, Serial: top + 1}, false},
	} {
		o := good(api.OpReplace)
		o.From, o.To = c.from, c.to
		may(t, c.name, o, c.want)
	}
}

// P8.1: drawn operations, and what comes of them when something is altered, may be just if the words say so.
func TestMayDrawn(t *testing.T) {
	d := rand.New(rand.NewPCG(8, 1))
	seen := map[bool]int{}
	for range 3000 {
		o := drawOp(d, drawPlan(d))
		may(t, "drawn", o, true)
		for range 20 {
			x := altered(d, o)
			if d.IntN(4) == 0 {
				x = altered(d, x)
			}
			want := opMay(x)
			seen[want]++
			may(t, "altered", x, want)
		}
	}
	if seen[true] < 10000 || seen[false] < 10000 {
		t.Error(seen)
	}
}

// P8.1: an operation is stale if it names an epoch that is not its channel's, whatever else is ahead of that.
func TestStale(t *testing.T) {
	for kind := 1; kind <= 12; kind++ {
		names := kind != api.OpGrab && kind != api.OpReplace
		is := func(name string, p api.Plan, o api.Op, want bool) {
			t.Helper()
			if ops.Stale(p, o) != want || stale(p, o) != want {
				t.Errorf("kind %d: %s", kind, name)
			}
		}
		o := good(kind)
		is("as it is", base(), o, false)
		if names {
			o.Epoch = 2
			is("a lesser epoch", base(), o, true)
			o.Epoch = 4
			is("a greater epoch", base(), o, true)
			o.Epoch = 0
			is("the epoch 0", base(), o, true)
			o.Epoch = top
			is("the last epoch", base(), o, true)
			o.Epoch = top + 1
			is("no epoch", base(), o, false)
		}
		p := base()
		p.Channels[0].Epoch = 9
		is("a greater epoch's channel", p, good(kind), names)
		p.Version = top
		is("no more versions", p, good(kind), names)
		p.Past[1] = api.Past{Who: 5, Inc: 3, N: 7}
		slices.SortFunc(p.Past, func(a, b api.Past) int { return a.Who - b.Who })
		is("done", p, good(kind), names)
		p.Past[1].N = 8
		is("a later one done", p, good(kind), names)
		p.Version++
		is("a plan that may not be", p, good(kind), false)
		if names {
			o = good(kind)
			o.Channel = 2
			is("the epoch of nobody's channel", base(), o, true)
			o.Epoch = 0
			is("nobody's channel", base(), o, false)
			p = base()
			p.Channels = p.Channels[:1]
			p.Ledgers = slices.Delete(p.Ledgers, 1, 2)
			is("no such channel", p, o, false)
			o.Epoch = 1
			is("no such channel, an epoch", p, o, false)
			o.Channel = 3
			is("no such channel, the last", p, o, false)
			o.Channel = 1
			is("the last channel", p, o, true)
			o.Channel = 4
			is("none may be", base(), o, false)
		}
	}
	d := rand.New(rand.NewPCG(8, 2))
	seen := 0
	for range 3000 {
		p := drawPlan(d)
		o := drawOp(d, p)
		for _, x := range []api.Op{o, altered(d, o)} {
			for _, y := range []api.Plan{p, altered(d, p)} {
				want := stale(y, x)
				if ops.Stale(y, x) != want {
					t.Fatalf("%+v, %+v: not %v", y, x, want)
				}
				if want {
					seen++
				}
			}
		}
	}
	if seen < 300 {
		t.Error(seen)
	}
}
