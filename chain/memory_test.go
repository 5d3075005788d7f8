package chain_test

import (
	"fmt"
	"math"
	"math/rand/v2"
	"slices"
	"testing"

	"scrivener/api"
	"scrivener/chain"
)

// roomy tells the same list in memory of its own, with room for so many more behind its end, in which x stands.
func roomy[T any](l []T, room int, x T) []T {
	return append(slices.Clone(l), slices.Repeat([]T{x}, room)...)[:len(l)]
}

// roomyPlan tells the same plan in memory of its own, with so much room behind each list's end.
func roomyPlan(p api.Plan, room int) api.Plan {
	p.Channels = roomy(p.Channels, room, api.Channel{Epoch: 77, Ledgers: []uint64{78}})
	p.Ledgers = roomy(p.Ledgers, room, api.Ledger{Id: 79, Closed: 1, Last: 8})
	p.Past = roomy(p.Past, room, api.Past{Who: 80})
	for i := range p.Channels {
		c := &p.Channels[i]
		c.Ledgers = roomy(c.Ledgers, room, 81)
		c.Seen = roomy(c.Seen, room, api.Mark{Producer: 82})
		c.Cursors = roomy(c.Cursors, room, api.Cursor{Sub: 83})
	}
	for i := range p.Ledgers {
		l := &p.Ledgers[i]
		l.Frags = roomy(l.Frags, room, api.Frag{First: 84})
		for k := range l.Frags {
			l.Frags[k].Bookies = roomy(l.Frags[k].Bookies, room, api.Place{Node: 85})
		}
	}
	return p
}

// whole tells all that stands in a plan, the room behind its lists' ends too.
func whole(p api.Plan) string {
	text := fmt.Sprint(p, p.Channels[:cap(p.Channels)], p.Ledgers[:cap(p.Ledgers)], p.Past[:cap(p.Past)])
	for _, c := range p.Channels {
		text += fmt.Sprint(c.Ledgers[:cap(c.Ledgers)], c.Seen[:cap(c.Seen)], c.Cursors[:cap(c.Cursors)])
	}
	for _, l := range p.Ledgers {
		text += fmt.Sprint(l.Frags[:cap(l.Frags)])
		for _, f := range l.Frags {
			text += fmt.Sprint(f.Bookies[:cap(f.Bookies)])
		}
	}
	return text
}

// answers is what all calls answer.
type answers struct {
	spots      []api.Spot
	gone, keep []uint64
	others     string
}

// asked has all calls done.
func asked(p api.Plan, channel int, sure uint64, s api.Spot) answers {
	found, e := chain.Find(p, channel, sure, s.Offset)
	offset, code := chain.Offset(p, channel, sure, s.Ledger, s.N)
	gone, next, first := chain.Gone(p, channel)
	others := fmt.Sprint(chain.Length(p, channel, sure), found, e, offset, code, next, first)
	return answers{chain.All(p, channel, sure), gone, chain.Keep(p), others}
}

// spoil has other things stand in all that was answered, the room behind its lists' ends too.
func (a answers) spoil() {
	for i := range a.spots[:cap(a.spots)] {
		a.spots[:cap(a.spots)][i] = api.Spot{Offset: 90, Ledger: 91, N: 92}
	}
	for i, l := range [][]uint64{a.gone, a.keep} {
		for k := range l[:cap(l)] {
			l[:cap(l)][k] = uint64(93 + i)
		}
	}
}

// apart looks whether what was spoilt is what stands there: else two lists have memory in common.
func (a answers) apart(t *testing.T) {
	t.Helper()
	if slices.ContainsFunc(a.gone, func(id uint64) bool { return id != 93 }) || slices.ContainsFunc(a.keep, func(id uint64) bool { return id != 94 }) {
		t.Fatalf("two lists have memory in common: %v", a)
	}
}

// drawn draws a plan, that may be, or may not, one of its channels, and a spot that may be its.
func drawn(d *rand.Rand) (api.Plan, int, uint64, api.Spot) {
	p := drawPlan(d)
	if d.IntN(4) == 0 {
		p = altered(d, p)
	}
	channel, sure := d.IntN(len(p.Channels)+2), drawSure(d)
	return p, channel, sure, one(d, append(all(p, channel, sure), api.Spot{})...)
}

// P20.5: what is handed in stays, and the room behind its lists' ends; what is answered shares no memory with it, nor one list of it with another.
func TestMemory(t *testing.T) {
	d := rand.New(rand.NewPCG(20, 7))
	for range 1000 {
		p, channel, sure, s := drawn(d)
		for _, room := range []int{0, 1, 9} {
			x := roomyPlan(p, room)
			was := whole(x)
			got, second := asked(x, channel, sure, s), asked(x, channel, sure, s)
			told := fmt.Sprint(got)
			if whole(x) != was {
				t.Fatalf("%s is %s", was, whole(x))
			}
			got.spoil()
			got.apart(t)
			if whole(x) != was {
				t.Fatalf("what was answered is that which was handed in: %s is %s", was, whole(x))
			}
			if fmt.Sprint(second) != told || fmt.Sprint(asked(x, channel, sure, s)) != told {
				t.Fatalf("what was done to an answer shows in another one: %v, not %s", second, told)
			}
		}
	}
}

// P20.5: what was answered stays, whatever is done to the plan then.
func TestAnswersStay(t *testing.T) {
	d := rand.New(rand.NewPCG(20, 8))
	for range 2000 {
		p, channel, sure, s := drawn(d)
		p = roomyPlan(p, 3)
		got := asked(p, channel, sure, s)
		was := fmt.Sprint(got)
		for _, c := range p.Channels {
			clear(c.Ledgers[:cap(c.Ledgers)])
		}
		clear(p.Channels[:cap(p.Channels)])
		clear(p.Ledgers[:cap(p.Ledgers)])
		if now := fmt.Sprint(got); now != was {
			t.Fatalf("%s is %s", was, now)
		}
	}
}

// R3: lists that are none, and empty ones, are one.
func TestEmptyLists(t *testing.T) {
	p := single(10, 10)
	q := p
	q.Ledgers, q.Past = []api.Ledger{}, []api.Past{}
	q.Channels = []api.Channel{channel(10, 10)}
	q.Channels[0].Ledgers, q.Channels[0].Seen, q.Channels[0].Cursors = []uint64{}, []api.Mark{}, []api.Cursor{}
	for _, p := range []api.Plan{p, q} {
		every(t, p, 1, 3)
	}
	nothing(t, "no channels", api.Plan{Next: 1, Channels: []api.Channel{}}, 1)
}

// R1, R5: no arguments have a call panic, or not end; and what it answers hangs on nothing but these.
func TestAnyArguments(t *testing.T) {
	d := rand.New(rand.NewPCG(20, 9))
	for range 5000 {
		p := drawPlan(d)
		for range d.IntN(4) {
			p = altered(d, p)
		}
		channel, sure := one(d, d.IntN(5), int(edge(d)), math.MinInt), edge(d)
		s := api.Spot{Offset: edge(d), Ledger: edge(d), N: edge(d)}
		tells(t, p, channel, sure)
		finds(t, p, channel, sure, s.Offset)
		offsets(t, p, channel, sure, s.Ledger, s.N)
		first := fmt.Sprint(asked(p, channel, sure, s))
		for range 2 {
			if again := fmt.Sprint(asked(p, channel, sure, s)); again != first {
				t.Fatalf("%s, then %s", first, again)
			}
		}
	}
}

// R1: a plan of far more than may be is none.
func TestMany(t *testing.T) {
	const many = 1 << 18
	p := single(10, 10)
	for i := range uint64(many) {
		p.Channels[0].Ledgers = append(p.Channels[0].Ledgers, i+1)
		p.Ledgers = append(p.Ledgers, ledger(i+1, 8))
	}
	p.Next = many + 1
	got := asked(p, 1, 8, api.Spot{Offset: 10, Ledger: 1, N: 1})
	if want := asked(api.Plan{}, 1, 8, api.Spot{}); fmt.Sprint(got) != fmt.Sprint(want) {
		t.Errorf("%v", got)
	}
}
