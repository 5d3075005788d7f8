package seen_test

import (
	"math/rand/v2"
	"slices"
	"testing"

	"scrivener/api"
	"scrivener/seen"
)

// post is a log that messages go into, each only if it is new, and what is known of its producers.
type post struct {
	row []api.Mark
	log []api.Entry
}

// sends has a message go into the log, if Ask says that it is new; else the log is looked at for what Ask says.
func (p *post) sends(t *testing.T, e api.Entry) int {
	t.Helper()
	kind, offset := seen.Ask(p.row, e.Producer, e.Seq)
	it := slices.IndexFunc(p.log, func(x api.Entry) bool { return x.Producer == e.Producer && x.Seq == e.Seq })
	its := slices.ContainsFunc(p.log, func(x api.Entry) bool { return x.Producer == e.Producer })
	switch kind {
	case api.SeenNew:
		var code api.Errno
		p.row, code = seen.Take(p.row, uint64(len(p.log)), e)
		if p.log = append(p.log, e); it >= 0 || code != api.OK {
			t.Fatalf("%v is new, but stands at %d; %d", e, it, code)
		}
	case api.SeenLast:
		if it < 0 || offset != uint64(it) {
			t.Fatalf("%v stands at %d, not at %d", e, it, offset)
		}
	case api.SeenFull:
		if its || len(p.row) != 6 {
			t.Fatalf("no room for %v in %v", e, p.row)
		}
	case api.SeenOld:
		if !its {
			t.Fatalf("%v is old, and nothing is there", e)
		}
	}
	return kind
}

// P19.6: of messages that go into a row only if they are new no two are the same, and each producer's rise; the row tells each one's last, and where it stands.
func TestOnce(t *testing.T) {
	d := rand.New(rand.NewPCG(19, 12))
	kinds := map[int]int{}
	for range 600 {
		var p post
		of, from := 1+d.IntN(9), few(d, 1)
		for range d.IntN(80) {
			kinds[p.sends(t, message(1+d.IntN(of), min(top, from+d.Uint64N(20))))]++
		}
		for i, e := range p.log {
			last := uint64(i)
			for k, x := range p.log[i+1:] {
				if x.Producer != e.Producer {
					continue
				}
				if last = uint64(i + 1 + k); x.Seq <= e.Seq {
					t.Fatalf("%v behind %v", x, e)
				}
			}
			m, ok := seen.Last(p.row, e.Producer)
			if x := p.log[last]; !ok || m != mark(e.Producer, x.Seq, last) {
				t.Fatalf("%v, where %v is at %d", m, x, last)
			}
		}
		if all := takes(t, nil, 0, p.log...); !slices.Equal(all.row, p.row) || all.e != api.OK {
			t.Fatalf("%v, not %v", all, p.row)
		}
	}
	came(t, kinds, 500, api.SeenNew, api.SeenLast, api.SeenOld, api.SeenFull)
}

// P19.6: the same by way of Add, from any row that may be on.
func TestOnceByAdd(t *testing.T) {
	d := rand.New(rand.NewPCG(19, 13))
	for range 2000 {
		row := drawRow(d, 8)
		went := slices.Clone(row)
		for offset := range uint64(40) {
			m := mark(1+d.IntN(8), few(d, 1), offset)
			if kind, _ := seen.Ask(row, m.Producer, m.Seq); kind != api.SeenNew {
				continue
			}
			if last, ok := seen.Last(went, m.Producer); ok && last.Seq >= m.Seq {
				t.Fatalf("%v behind %v", m, last)
			}
			went = append(went, m)
			x := adds(t, row, m)
			if last, ok := seen.Last(x.row, m.Producer); x.e != api.OK || !ok || last != m {
				t.Fatalf("%v into %v: %v", m, row, x)
			}
			row = x.row
		}
	}
}

// part tells the row of some entries, and of those behind, taken one behind the other; the error of the first that has one.
func part(t *testing.T, l []api.Mark, from uint64, at int, entries []api.Entry) told {
	t.Helper()
	x := takes(t, l, from, entries[:at]...)
	if x.e != api.OK {
		return x
	}
	return takes(t, x.row, from+uint64(at), entries[at:]...)
}

// P19.7: to take some entries, and then those behind, is to take all. (Where all may not be, one part may not, or finds no room ahead of that.)
func TestTakenInParts(t *testing.T) {
	d := rand.New(rand.NewPCG(19, 14))
	codes := map[api.Errno]int{}
	for i := range 6000 {
		of := 1 + d.IntN(12)
		l, entries := drawRow(d, of), drawEntries(d, of)
		if i%8 == 0 {
			entries = spoilt(d, entries)
		}
		from := drawFrom(d, len(entries))
		all := takes(t, l, from, entries...)
		codes[all.e]++
		for at := range len(entries) + 1 {
			got := part(t, l, from, at, entries)
			if all.e != api.ErrArg {
				holds(t, got, all, l, from, entries, at)
			} else if got.e == api.OK {
				t.Fatalf("%v into %v at %d, cut at %d: %v, not %v", entries, l, from, at, got, all)
			}
		}
	}
	came(t, codes, 300, api.OK, api.ErrArg, api.ErrFull)
}

// P19.7: entries up to the last offset there is are all, whatever they are cut into: behind them there are none.
func TestTakenInPartsAtTheEnd(t *testing.T) {
	entries := []api.Entry{message(1, 1), message(2, 1), message(1, 2)}
	for at := range 4 {
		is(t, "up to the end", part(t, nil, top-2, at, entries), api.OK, mark(1, 2, top), mark(2, 1, top-1))
		is(t, "beyond the end", part(t, nil, top-1, at, entries), api.ErrArg)
	}
}

// P19.7: a row joined with itself stays.
func TestJoinedWithItself(t *testing.T) {
	d := rand.New(rand.NewPCG(19, 15))
	for i := range 5000 {
		l := drawRow(d, 1+d.IntN(15))
		if i < 7 {
			l = firsts(i)
		}
		is(t, "with itself", joins(t, l, l), api.OK, l...)
	}
}

// P19.7: the row of what was taken first, joined with that of what was taken behind it by itself, is the row of all.
func TestTakenApart(t *testing.T) {
	d := rand.New(rand.NewPCG(19, 16))
	codes := map[api.Errno]int{}
	for range 6000 {
		of := 1 + d.IntN(12)
		l, entries, from := drawRow(d, of), drawEntries(d, of), d.Uint64N(9)
		all := takes(t, l, from, entries...)
		codes[all.e]++
		for at := range len(entries) + 1 {
			first := takes(t, l, from, entries[:at]...)
			behind := takes(t, nil, from+uint64(at), entries[at:]...)
			got := told{e: max(first.e, behind.e)}
			if got.e == api.OK {
				got = joins(t, first.row, behind.row)
			}
			holds(t, got, all, l, from, entries, at)
		}
	}
	came(t, codes, 1000, api.OK, api.ErrFull)
}

// drawLog draws marks whose offsets rise, of few producers.
func drawLog(d *rand.Rand, from uint64, of int) []api.Mark {
	var log []api.Mark
	for range d.IntN(14) {
		log = append(log, mark(1+d.IntN(of), few(d, 1), from))
		from += 1 + d.Uint64N(3)
	}
	return log
}

// P19.8: what was folded as far as an offset, folded again with the log as far as a later one, is what is folded at once: with all of the log, or with what was not folded yet.
func TestFoldedTwice(t *testing.T) {
	d := rand.New(rand.NewPCG(19, 17))
	for range 3000 {
		of := 1 + d.IntN(9)
		base := drawLog(d, 0, of)
		first := uint64(0)
		if len(base) > 0 {
			first = base[len(base)-1].Offset + 1
		}
		log := drawLog(d, first, of)
		end := first + 45
		for range 6 {
			at := first + d.Uint64N(end-first)
			later := at + d.Uint64N(end-at)
			once := folds(t, base, log, later)
			twice := folds(t, folds(t, base, log, at), log, later)
			row(t, "all of the log", twice, once...)
			rest := slices.DeleteFunc(slices.Clone(log), func(m api.Mark) bool { return m.Offset < at })
			row(t, "the rest of the log", folds(t, folds(t, base, log, at), rest, later), once...)
		}
	}
}

// P19.8: so a row of what a log has is what taking its entries comes to, as long as each is new, wherever it was folded.
func TestFoldedIsTaken(t *testing.T) {
	d := rand.New(rand.NewPCG(19, 18))
	for range 600 {
		var p post
		var log []api.Mark
		for range d.IntN(40) {
			if e := message(1+d.IntN(7), 1+d.Uint64N(30)); p.sends(t, e) == api.SeenNew {
				log = append(log, mark(e.Producer, e.Seq, uint64(len(log))))
			}
		}
		for at := range uint64(len(log) + 1) {
			is(t, "as far as that", takes(t, nil, 0, p.log[:at]...), api.OK, folds(t, nil, log, at)...)
		}
		row(t, "all", folds(t, nil, log, uint64(len(log))), p.row...)
	}
}
