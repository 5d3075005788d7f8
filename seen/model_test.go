package seen_test

import (
	"maps"
	"math"
	"math/big"
	"math/rand/v2"
	"slices"
	"testing"

	"scrivener/api"
	"scrivener/entry"
	"scrivener/seen"
)

// top is the greatest number that messages and offsets may have.
const top = 1<<62 - 1

// The model: rows of marks as the chapter's words say them, not by way of the package.

// mark tells a mark.
func mark(producer int, seq, offset uint64) api.Mark {
	return api.Mark{Producer: producer, Seq: seq, Offset: offset}
}

// message tells an entry without bytes.
func message(producer int, seq uint64) api.Entry { return api.Entry{Producer: producer, Seq: seq} }

// example is the chapter's row.
func example() []api.Mark { return []api.Mark{mark(2, 5, 9), mark(4, 1, 3)} }

// firsts tells a row of so many marks, of the producers from 1 on.
func firsts(n int) []api.Mark {
	var l []api.Mark
	for i := range n {
		l = append(l, mark(i+1, uint64(10+i), uint64(20+i)))
	}
	return l
}

// mayMark tells whether a mark may be.
func mayMark(m api.Mark) bool {
	return m.Producer > 0 && m.Producer < 16 && m.Seq > 0 && m.Seq>>62 == 0 && m.Offset>>62 == 0
}

// mayRow tells whether a row of marks may be.
func mayRow(l []api.Mark) bool {
	for i, m := range l {
		for _, behind := range l[i+1:] {
			if behind.Producer <= m.Producer {
				return false
			}
		}
		if !mayMark(m) {
			return false
		}
	}
	return len(l) < 7
}

// lasts tells of each producer its last mark in a row.
func lasts(l []api.Mark) map[int]api.Mark {
	of := map[int]api.Mark{}
	for _, m := range l {
		of[m.Producer] = m
	}
	return of
}

// byProducer tells marks as a row, rising by their producers.
func byProducer(of map[int]api.Mark) []api.Mark {
	var l []api.Mark
	for _, producer := range slices.Sorted(maps.Keys(of)) {
		l = append(l, of[producer])
	}
	return l
}

// asked tells what Ask should answer.
func asked(l []api.Mark, producer int, seq uint64) (int, uint64) {
	m, has := lasts(l)[producer]
	if !has && len(l) > 5 {
		return 3, 0
	}
	if !has || m.Seq < seq {
		return 0, 0
	}
	if m.Seq == seq {
		return 1, m.Offset
	}
	return 2, 0
}

// told is a row that a call answers.
type told struct {
	row []api.Mark
	e   api.Errno
}

// gone tells the row into which messages went.
func gone(l, messages []api.Mark) told {
	of := lasts(l)
	for _, m := range messages {
		x, has := of[m.Producer]
		if !has && len(of) == 6 {
			return told{e: 3}
		}
		if !has || x.Seq < m.Seq {
			of[m.Producer] = m
		}
	}
	return told{row: byProducer(of)}
}

// added tells what Add should answer.
func added(l []api.Mark, m api.Mark) told {
	if !mayRow(l) || !mayMark(m) {
		return told{e: 1}
	}
	return gone(l, []api.Mark{m})
}

// taken tells what Take should answer.
func taken(l []api.Mark, from uint64, entries []api.Entry) told {
	if !mayRow(l) {
		return told{e: 1}
	}
	offset := new(big.Int).SetUint64(from)
	var messages []api.Mark
	for _, e := range entries {
		m := api.Mark{Producer: e.Producer, Seq: e.Seq, Offset: offset.Uint64()}
		if offset.Cmp(big.NewInt(top)) > 0 || !mayMark(m) || len(e.Body) > 64 {
			return told{e: 1}
		}
		messages = append(messages, m)
		offset.Add(offset, big.NewInt(1))
	}
	return gone(l, messages)
}

// joined tells what Join should answer.
func joined(a, b []api.Mark) told {
	if !mayRow(a) || !mayRow(b) {
		return told{e: 1}
	}
	return gone(a, b)
}

// cut tells what Cut should answer.
func cut(l []api.Mark, at uint64) []api.Mark {
	var row []api.Mark
	for _, m := range l {
		if m.Offset < at {
			row = append(row, m)
		}
	}
	return row
}

// folded tells what Fold should answer.
func folded(base, log []api.Mark, at uint64) []api.Mark {
	return byProducer(lasts(cut(slices.Concat(base, log), at)))
}

// The calls, held against the model.

// holds looks whether a call answered what it should.
func holds(t *testing.T, got, want told, call ...any) {
	t.Helper()
	if !slices.Equal(got.row, want.row) || got.e != want.e {
		t.Fatalf("%v: %v, not %v", call, got, want)
	}
}

// mays has May called, and looks at what it answers.
func mays(t *testing.T, l ...api.Mark) bool {
	t.Helper()
	got := seen.May(l...)
	if got != mayRow(l) {
		t.Fatalf("May(%v): %v", l, got)
	}
	return got
}

// ends has Last called, and looks at what it answers.
func ends(t *testing.T, l []api.Mark, producer int) {
	t.Helper()
	want, has := lasts(l)[producer]
	if got, ok := seen.Last(l, producer); got != want || ok != has {
		t.Fatalf("Last(%v, %d): %v, %v, not %v, %v", l, producer, got, ok, want, has)
	}
}

// asks has Ask called, and looks at what it answers.
func asks(t *testing.T, l []api.Mark, producer int, seq uint64) int {
	t.Helper()
	kind, offset := asked(l, producer, seq)
	got, at := seen.Ask(l, producer, seq)
	if got != kind || at != offset {
		t.Fatalf("Ask(%v, %d, %d): %d, %d, not %d, %d", l, producer, seq, got, at, kind, offset)
	}
	return got
}

// adds has Add called, and looks at what it answers.
func adds(t *testing.T, l []api.Mark, m api.Mark) told {
	t.Helper()
	var x told
	x.row, x.e = seen.Add(l, m)
	holds(t, x, added(l, m), "Add", l, m)
	return x
}

// takes has Take called, and looks at what it answers.
func takes(t *testing.T, l []api.Mark, from uint64, entries ...api.Entry) told {
	t.Helper()
	var x told
	x.row, x.e = seen.Take(l, from, entries...)
	holds(t, x, taken(l, from, entries), "Take", l, from, entries)
	return x
}

// joins has Join called, and looks at what it answers.
func joins(t *testing.T, a, b []api.Mark) told {
	t.Helper()
	var x told
	x.row, x.e = seen.Join(a, b)
	holds(t, x, joined(a, b), "Join", a, b)
	return x
}

// cuts has Cut called, and looks at what it answers.
func cuts(t *testing.T, l []api.Mark, at uint64) []api.Mark {
	t.Helper()
	row := seen.Cut(l, at)
	holds(t, told{row: row}, told{row: cut(l, at)}, "Cut", l, at)
	return row
}

// folds has Fold called, and looks at what it answers.
func folds(t *testing.T, base, log []api.Mark, at uint64) []api.Mark {
	t.Helper()
	row := seen.Fold(base, log, at)
	holds(t, told{row: row}, told{row: folded(base, log, at)}, "Fold", base, log, at)
	return row
}

// came looks whether each of those answers came at least so often, and no other one.
func came[T comparable](t *testing.T, times map[T]int, least int, answers ...T) {
	t.Helper()
	for _, a := range answers {
		if len(times) != len(answers) || times[a] < least {
			t.Errorf("%v came %d times: %v", a, times[a], times)
		}
	}
}

// Rows, and what goes into them: all there are of few numbers, and such as are drawn from a row of chance that is the same at each run.

// seqs are messages' numbers about all edges; false: none may have it.
var seqs = map[uint64]bool{
	0: false, 1: true, 2: true, 5: true, 1<<32 - 1: true, 1 << 32: true, 1<<32 + 1: true, top - 1: true, top: true,
	top + 1: false, top + 2: false, 1<<63 - 1: false, 1 << 63: false, 1<<63 + 1: false, math.MaxUint64 - 1: false, math.MaxUint64: false,
}

// producers are numbers of producers about all edges; false: none has it.
var producers = map[int]bool{
	0: false, 1: true, 2: true, 9: true, 14: true, 15: true, -1: false, -15: false, 16: false, 17: false, 257: false, 1<<32 + 1: false,
	math.MinInt: false, math.MinInt + 1: false, math.MinInt32: false, math.MaxInt32: false, math.MaxInt: false,
}

// grid tells all marks of these numbers, and of each whether it may be: an offset may be any that a message's number may, and 0.
func grid(each func(m api.Mark, may bool)) {
	for producer, p := range producers {
		for seq, s := range seqs {
			for offset, o := range seqs {
				each(mark(producer, seq, offset), p && s && (o || offset == 0))
			}
		}
	}
}

// rows tells all rows of up to so many of some.
func rows[T any](most int, of []T, each func([]T)) {
	var row func(l []T)
	row = func(l []T) {
		each(slices.Clone(l))
		if len(l) == most {
			return
		}
		for _, x := range of {
			row(append(slices.Clone(l), x))
		}
	}
	row(nil)
}

// one draws one of a row.
func one[T any](d *rand.Rand, l ...T) T { return l[d.IntN(len(l))] }

// edge draws a number at which something may change.
func edge(d *rand.Rand) uint64 { return one(d, slices.Sorted(maps.Keys(seqs))...) }

// few draws a small number, or, less often, one near the top.
func few(d *rand.Rand, from uint64) uint64 {
	if d.IntN(8) == 0 {
		return top - d.Uint64N(4)
	}
	return from + d.Uint64N(9)
}

// drawRow draws a row that may be, of as many marks as it comes to, of some of so many producers.
func drawRow(d *rand.Rand, of int) []api.Mark {
	var row []api.Mark
	some := d.Perm(of)
	some = some[:d.IntN(min(6, of)+1)]
	slices.Sort(some)
	for _, i := range some {
		row = append(row, mark(i+1, few(d, 1), few(d, 0)))
	}
	return row
}

// drawEntries draws entries that may be, one behind the other, of so many producers.
func drawEntries(d *rand.Rand, of int) []api.Entry {
	var l []api.Entry
	for range d.IntN(12) {
		l = append(l, api.Entry{Producer: 1 + d.IntN(of), Seq: few(d, 1), Body: make([]byte, one(d, 0, 1, 64))})
	}
	return l
}

// drawFrom draws an offset from which so many entries may stand, more often than not.
func drawFrom(d *rand.Rand, entries int) uint64 {
	if d.IntN(2) == 0 {
		return few(d, 0)
	}
	return top - uint64(entries) + d.Uint64N(4)
}

// drawAny draws any row: that of one that may be with some of its marks altered, doubled, turned round, or other ones put in.
func drawAny(d *rand.Rand) []api.Mark {
	row := drawRow(d, 1+d.IntN(15))
	for range one(d, 0, 1, 2, 5, 12) {
		i := d.IntN(len(row) + 1)
		switch d.IntN(4) {
		case 0:
			row = slices.Insert(row, i, mark(d.IntN(18)-1, few(d, 0), few(d, 0)))
		case 1:
			row = slices.Insert(row, i, mark(one(d, slices.Sorted(maps.Keys(producers))...), edge(d), edge(d)))
		case 2:
			row = slices.Concat(row[:i], row)
			row = row[:min(len(row), 20)]
		default:
			d.Shuffle(i, func(a, b int) { row[a], row[b] = row[b], row[a] })
		}
	}
	return row
}

// drawMark draws a mark that may go into a row, more often than not of one of its producers.
func drawMark(d *rand.Rand, row []api.Mark) api.Mark {
	m := mark(1+d.IntN(15), few(d, 1), few(d, 0))
	if len(row) > 0 && d.IntN(2) == 0 {
		m.Producer = one(d, row...).Producer
	}
	switch d.IntN(12) {
	case 0:
		m.Producer = one(d, slices.Sorted(maps.Keys(producers))...)
	case 1:
		m.Seq = edge(d)
	case 2:
		m.Offset = edge(d)
	}
	return m
}

// spoilt tells entries, one of which may not be, as far as there is one.
func spoilt(d *rand.Rand, l []api.Entry) []api.Entry {
	l = slices.Clone(l)
	if len(l) == 0 {
		return l
	}
	e := &l[d.IntN(len(l))]
	switch d.IntN(3) {
	case 0:
		e.Producer = one(d, 0, -1, 16, math.MinInt, math.MaxInt)
	case 1:
		e.Seq = one[uint64](d, 0, top+1, math.MaxUint64)
	default:
		e.Body = make([]byte, one(d, 65, 66, 1000))
	}
	if entry.May(*e) {
		panic("an entry that may be")
	}
	return l
}
