package seen_test

import (
	"fmt"
	"math/rand/v2"
	"slices"
	"testing"

	"scrivener/api"
	"scrivener/seen"
)

// spoil is what stands in the room behind lists' ends.
var spoil = mark(77, 78, 79)

// roomy tells the same row in memory of its own, with room for so many more behind its end.
func roomy(l []api.Mark, room int) []api.Mark {
	all := slices.Grow([]api.Mark(nil), len(l)+room)
	all = append(all, l...)
	for range room {
		all = append(all, spoil)
	}
	return all[:len(l)]
}

// given is what calls are handed.
type given struct {
	a, b    []api.Mark
	m       api.Mark
	from    uint64
	entries []api.Entry
}

// drawGiven draws what calls are handed: more often than not such as may be.
func drawGiven(d *rand.Rand) given {
	of := 1 + d.IntN(15)
	g := given{a: drawRow(d, of), b: drawRow(d, of), entries: drawEntries(d, of)}
	if d.IntN(4) == 0 {
		g.a = drawAny(d)
	}
	if d.IntN(4) == 0 {
		g.b = drawAny(d)
	}
	g.m, g.from = drawMark(d, g.a), drawFrom(d, len(g.entries))
	return g
}

// all has all calls done that answer a row, and tells these.
func (g given) all() [][]api.Mark {
	added, _ := seen.Add(g.a, g.m)
	taken, _ := seen.Take(g.a, g.from, g.entries...)
	joined, _ := seen.Join(g.a, g.b)
	return [][]api.Mark{added, taken, joined, seen.Cut(g.a, g.from), seen.Fold(g.a, g.b, g.from)}
}

// others has all other calls done, and tells what they answer.
func (g given) others() string {
	last, ok := seen.Last(g.a, g.m.Producer)
	kind, offset := seen.Ask(g.a, g.m.Producer, g.m.Seq)
	return fmt.Sprint(seen.May(g.a...), seen.Same(g.a, g.b), last, ok, kind, offset)
}

// entriesWith tells the same entries, each with bytes of its own, and room behind them and behind the list's end.
func entriesWith(l []api.Entry, room int) []api.Entry {
	all := make([]api.Entry, len(l)+room)
	for i := range all {
		all[i] = api.Entry{Producer: 77, Seq: 78}
		if i < len(l) {
			all[i] = l[i]
			all[i].Body = append(slices.Repeat([]byte{5}, len(l[i].Body)), slices.Repeat([]byte{6}, room)...)[:len(l[i].Body)]
		}
	}
	return all[:len(l)]
}

// whole tells all that stands in what is handed in, the room behind lists' ends too.
func (g given) whole() string {
	var bodies [][]byte
	for _, e := range g.entries {
		bodies = append(bodies, e.Body[:cap(e.Body)])
	}
	return fmt.Sprint(g.a[:cap(g.a)], g.b[:cap(g.b)], g.entries[:cap(g.entries)], bodies)
}

// P19.5: what is handed in stays, and the room behind its lists' ends; what is answered shares no memory with it, nor one row of it with another.
func TestMemory(t *testing.T) {
	d := rand.New(rand.NewPCG(19, 8))
	for range 1500 {
		g := drawGiven(d)
		for _, room := range []int{0, 1, 2, 9} {
			g.a, g.b, g.entries = roomy(g.a, room), roomy(g.b, room), entriesWith(g.entries, room)
			was := g.whole()
			g.others()
			got := g.all()
			told := fmt.Sprint(got)
			if g.whole() != was {
				t.Fatalf("%s is %s", was, g.whole())
			}
			for i, l := range got {
				for k := range l[:cap(l)] {
					l[:cap(l)][k] = mark(i, 90, 91)
				}
				if g.whole() != was {
					t.Fatalf("what was answered is that which was handed in: %s is %s", was, g.whole())
				}
			}
			for i, l := range got {
				for _, m := range l {
					if m != mark(i, 90, 91) {
						t.Fatal("two rows that were answered have memory in common")
					}
				}
			}
			if again := fmt.Sprint(g.all()); again != told {
				t.Fatalf("what was done to an answer shows in the next one: %s, not %s", again, told)
			}
		}
	}
}

// P19.5: what was answered stays, whatever is done to what was handed in.
func TestAnswersStay(t *testing.T) {
	d := rand.New(rand.NewPCG(19, 9))
	for range 3000 {
		g := drawGiven(d)
		g.a, g.b, g.entries = roomy(g.a, 3), roomy(g.b, 3), entriesWith(g.entries, 3)
		got := g.all()
		was := fmt.Sprint(got)
		for _, l := range [][]api.Mark{g.a, g.b} {
			for i := range l[:cap(l)] {
				l[:cap(l)][i] = mark(9, 90, 91)
			}
		}
		clear(g.entries[:cap(g.entries)])
		if now := fmt.Sprint(got); now != was {
			t.Fatalf("%s is %s", was, now)
		}
	}
}

// P19.5: a row that stays is new memory, too.
func TestRowsThatStay(t *testing.T) {
	l := example()
	added, _ := seen.Add(l, mark(2, 5, 11))
	taken, _ := seen.Take(l, 20)
	old, _ := seen.Take(l, 20, message(2, 1))
	joined, _ := seen.Join(l, nil)
	itself, _ := seen.Join(l, l)
	other, _ := seen.Join(nil, l)
	for i, x := range [][]api.Mark{added, taken, old, joined, itself, other, seen.Cut(l, 100), seen.Fold(l, nil, 100), seen.Fold(nil, l, 100)} {
		if !slices.Equal(x, example()) {
			t.Fatalf("%d: %v", i, x)
		}
		clear(x)
		if !slices.Equal(l, example()) {
			t.Fatalf("%d is the row that was handed in", i)
		}
	}
}

// R5: what a call answers hangs on nothing but what it is handed.
func TestOnceMore(t *testing.T) {
	d := rand.New(rand.NewPCG(19, 10))
	for range 1000 {
		g := drawGiven(d)
		first := g.others() + fmt.Sprint(g.all())
		for range 3 {
			if again := g.others() + fmt.Sprint(g.all()); again != first {
				t.Fatalf("%s, then %s", first, again)
			}
		}
	}
}

// R1: no arguments have a call panic, or not end.
func TestAnyArguments(t *testing.T) {
	d := rand.New(rand.NewPCG(19, 11))
	for range 20000 {
		a, b := drawAny(d), drawAny(d)
		m := mark(int(edge(d)), edge(d), edge(d))
		mays(t, a...)
		ends(t, a, m.Producer)
		asks(t, a, m.Producer, m.Seq)
		adds(t, a, m)
		takes(t, a, m.Offset, spoilt(d, drawEntries(d, 15))...)
		joins(t, a, b)
		cuts(t, a, m.Offset)
		folds(t, a, b, m.Offset)
	}
}

// R1: many entries, and a long row.
func TestMany(t *testing.T) {
	const many = 1 << 18
	var entries []api.Entry
	for i := range many {
		entries = append(entries, message(1+i%6, uint64(1+i/6)))
	}
	x := takes(t, firsts(6), top-many+1, entries...)
	if x.e != api.OK || x.row[(many-1)%6].Offset != top {
		t.Errorf("%v", x)
	}
	takes(t, firsts(6), top-many+2, entries...)
	entries[many-1].Producer = 7
	is(t, "the last one finds no room", takes(t, firsts(6), 0, entries...), api.ErrFull)
	entries[many-1].Producer = 16
	is(t, "the last one may not be", takes(t, firsts(6), 0, entries...), api.ErrArg)
	long := make([]api.Mark, many)
	long[0] = mark(3, 4, 5)
	ends(t, long, 3)
	asks(t, long, 3, 4)
	asks(t, long, 2, 4)
	joins(t, long, long)
	adds(t, long, mark(1, 1, 1))
}
