package seen_test

import (
	"math"
	"math/rand/v2"
	"testing"

	"scrivener/api"
	"scrivener/seen"
)

// is looks whether a call answered that.
func is(t *testing.T, name string, got told, e api.Errno, want ...api.Mark) {
	t.Helper()
	holds(t, got, told{want, e}, name)
}

// P19.3: a message goes into a row: at its producer's place, if it has none yet, or a lesser Seq.
func TestAdd(t *testing.T) {
	is(t, "into none", adds(t, nil, mark(3, 7, 10)), api.OK, mark(3, 7, 10))
	is(t, "ahead of all", adds(t, example(), mark(1, 7, 10)), api.OK, mark(1, 7, 10), mark(2, 5, 9), mark(4, 1, 3))
	is(t, "between", adds(t, example(), mark(3, 7, 10)), api.OK, mark(2, 5, 9), mark(3, 7, 10), mark(4, 1, 3))
	is(t, "behind all", adds(t, example(), mark(5, 7, 10)), api.OK, mark(2, 5, 9), mark(4, 1, 3), mark(5, 7, 10))
	is(t, "a greater Seq", adds(t, example(), mark(2, 6, 10)), api.OK, mark(2, 6, 10), mark(4, 1, 3))
	is(t, "a greater Seq, a lesser offset", adds(t, example(), mark(2, 6, 0)), api.OK, mark(2, 6, 0), mark(4, 1, 3))
	is(t, "a greater Seq of the last one", adds(t, example(), mark(4, 2, 3)), api.OK, mark(2, 5, 9), mark(4, 2, 3))
	is(t, "the same Seq", adds(t, example(), mark(2, 5, 10)), api.OK, example()...)
	is(t, "the same Seq, a lesser offset", adds(t, example(), mark(2, 5, 8)), api.OK, example()...)
	is(t, "a lesser Seq", adds(t, example(), mark(2, 4, 10)), api.OK, example()...)
	is(t, "the least numbers", adds(t, nil, mark(1, 1, 0)), api.OK, mark(1, 1, 0))
	is(t, "the greatest numbers", adds(t, nil, mark(15, top, top)), api.OK, mark(15, top, top))
	is(t, "Seq behind the one below the greatest", adds(t, []api.Mark{mark(1, top-1, 0)}, mark(1, top, 1)), api.OK, mark(1, top, 1))
}

// P19.3: a row has room for six producers; those that have a mark need none.
func TestAddToFull(t *testing.T) {
	for n := range 7 {
		l := firsts(n)
		want, e := append(firsts(n), mark(12, 1, 1)), api.OK
		if n == 6 {
			want, e = nil, api.ErrFull
		}
		is(t, "another producer", adds(t, l, mark(12, 1, 1)), e, want...)
	}
	for producer := 1; producer <= 15; producer++ {
		for _, seq := range []uint64{1, 10, 15, 16, 99} {
			if x := adds(t, firsts(6), mark(producer, seq, 50)); (x.e == api.ErrFull) != (producer > 6) {
				t.Errorf("producer %d: %d", producer, x.e)
			}
		}
	}
	even := []api.Mark{mark(2, 1, 0), mark(4, 1, 1), mark(6, 1, 2), mark(8, 1, 3), mark(10, 1, 4), mark(12, 1, 5)}
	for producer := 1; producer <= 15; producer++ {
		if x := adds(t, even, mark(producer, 2, 50)); (x.e == api.OK) != (producer%2 == 0 && producer < 13) {
			t.Errorf("producer %d: %d", producer, x.e)
		}
	}
}

// P19.3: ErrArg, unless the row and the mark may be, ahead of ErrFull.
func TestAddOfWrong(t *testing.T) {
	for _, l := range [][]api.Mark{
		{mark(2, 1, 0), mark(1, 1, 0)}, {mark(2, 1, 0), mark(2, 2, 0)}, {mark(0, 1, 0)}, {mark(16, 1, 0)}, {mark(1, 0, 0)}, {mark(1, top+1, 0)}, {mark(1, 1, top+1)},
		{mark(1, 1, 1), {}}, firsts(7), firsts(15),
	} {
		is(t, "into a row that may not be", adds(t, l, mark(9, 9, 9)), api.ErrArg)
		is(t, "into a row that may not be", adds(t, l, mark(1, 9, 9)), api.ErrArg)
	}
	for _, n := range []int{0, 2, 6} {
		for _, m := range []api.Mark{{}, mark(0, 1, 0), mark(16, 1, 0), mark(-1, 1, 0), mark(1, 0, 0), mark(1, top+1, 0), mark(1, 1, top+1), mark(1, 99, math.MaxUint64), mark(9, 0, 0)} {
			is(t, "a mark that may not be", adds(t, firsts(n), m), api.ErrArg)
		}
	}
	grid(func(m api.Mark, may bool) {
		if x := adds(t, nil, m); (x.e == api.OK) != may {
			t.Fatalf("Add(%v): %d", m, x.e)
		}
	})
}

// P19.3: of any rows.
func TestAddOfAny(t *testing.T) {
	d := rand.New(rand.NewPCG(19, 3))
	codes := map[api.Errno]int{}
	for i := range 30000 {
		l := drawAny(d)
		if i%2 == 0 {
			l = drawRow(d, 1+d.IntN(15))
		}
		x := adds(t, l, drawMark(d, l))
		codes[x.e]++
		if x.e == api.OK && !seen.May(x.row...) {
			t.Fatalf("%v may not be", x.row)
		}
	}
	came(t, codes, 200, api.OK, api.ErrArg, api.ErrFull)
}

// P19.3: entries go into a row one behind the other, each at one offset more than the one ahead.
func TestTake(t *testing.T) {
	is(t, "none", takes(t, example(), 20), api.OK, example()...)
	is(t, "none into none", takes(t, nil, 0), api.OK)
	is(t, "one", takes(t, nil, 20, message(3, 7)), api.OK, mark(3, 7, 20))
	is(t, "one at 0", takes(t, nil, 0, message(1, 1)), api.OK, mark(1, 1, 0))
	is(t, "of two producers", takes(t, nil, 20, message(3, 7), message(1, 2)), api.OK, mark(1, 2, 21), mark(3, 7, 20))
	is(t, "rising", takes(t, nil, 20, message(3, 7), message(3, 8), message(3, 9)), api.OK, mark(3, 9, 22))
	is(t, "falling", takes(t, nil, 20, message(3, 9), message(3, 8), message(3, 7)), api.OK, mark(3, 9, 20))
	is(t, "twice", takes(t, nil, 20, message(3, 7), message(3, 7)), api.OK, mark(3, 7, 20))
	is(t, "there and back", takes(t, nil, 20, message(3, 7), message(3, 9), message(3, 7), message(3, 8)), api.OK, mark(3, 9, 21))
	is(t, "what is there", takes(t, example(), 20, message(2, 5), message(2, 4), message(4, 1)), api.OK, example()...)
	is(t, "offsets go by all entries", takes(t, example(), 20, message(2, 1), message(2, 1), message(4, 2)), api.OK, mark(2, 5, 9), mark(4, 2, 22))
	is(t, "offsets below those that are there", takes(t, example(), 0, message(2, 6), message(4, 2)), api.OK, mark(2, 6, 0), mark(4, 2, 1))
	long := api.Entry{Producer: 1, Seq: 1, Body: make([]byte, 64)}
	is(t, "the longest body", takes(t, nil, 3, long), api.OK, mark(1, 1, 3))
}

// P19.3: ErrFull, as soon as one finds no room, whatever comes behind; those whose producer has a mark need none.
func TestTakeFull(t *testing.T) {
	is(t, "one too many", takes(t, firsts(6), 50, message(7, 1)), api.ErrFull)
	is(t, "the last place, and one more", takes(t, firsts(5), 50, message(7, 1), message(8, 1)), api.ErrFull)
	is(t, "the last place", takes(t, firsts(5), 50, message(7, 1), message(7, 2)), api.OK, append(firsts(5), mark(7, 2, 51))...)
	is(t, "others ahead and behind", takes(t, firsts(6), 50, message(1, 99), message(7, 1), message(2, 99)), api.ErrFull)
	is(t, "others alone", takes(t, firsts(6), 50, message(6, 99), message(6, 1)), api.OK, append(firsts(5), mark(6, 99, 50))...)
	var all []api.Entry
	for producer := 15; producer >= 1; producer-- {
		all = append(all, message(producer, 3))
		x := takes(t, nil, 50, all...)
		if (x.e == api.ErrFull) != (len(all) > 6) {
			t.Errorf("%d producers: %d", len(all), x.e)
		}
	}
}

// P19.3: ErrArg, unless the row and each entry may be, ahead of ErrFull, wherever in the row it stands.
func TestTakeOfWrong(t *testing.T) {
	long := api.Entry{Producer: 1, Seq: 1, Body: make([]byte, 65)}
	for _, n := range []int{0, 2, 6} {
		for _, e := range []api.Entry{{}, message(0, 1), message(16, 1), message(-1, 1), message(1, 0), message(1, top+1), message(1, math.MaxUint64), long} {
			is(t, "alone", takes(t, firsts(n), 50, e), api.ErrArg)
			is(t, "ahead", takes(t, firsts(n), 50, e, message(9, 1)), api.ErrArg)
			is(t, "behind", takes(t, firsts(n), 50, message(9, 1), message(1, 99), e), api.ErrArg)
			is(t, "between", takes(t, firsts(n), 50, message(9, 1), e, message(1, 99)), api.ErrArg)
		}
	}
	for _, l := range [][]api.Mark{{mark(2, 1, 0), mark(1, 1, 0)}, {mark(2, 1, 0), mark(2, 2, 0)}, {{}}, {mark(1, 1, top+1)}, firsts(7)} {
		is(t, "into a row that may not be", takes(t, l, 50, message(1, 99)), api.ErrArg)
		is(t, "none into a row that may not be", takes(t, l, 50), api.ErrArg)
		is(t, "wrong, all of it", takes(t, l, math.MaxUint64, long), api.ErrArg)
	}
}

// P19.3: the last offset is at most the greatest number, reckoned exactly; where there are no entries there is no last one.
func TestTakeNearTheEnd(t *testing.T) {
	few := []api.Entry{message(1, 1), message(2, 1), message(1, 2), message(3, 1)}
	for n := 1; n <= 4; n++ {
		end := uint64(top - n + 1)
		x := takes(t, nil, end, few[:n]...)
		is(t, "up to the end", takes(t, x.row, end+1, few[:n]...), api.ErrArg)
		if m, ok := seen.Last(x.row, few[n-1].Producer); x.e != api.OK || !ok || m.Offset != top {
			t.Errorf("%d up to the end: %v", n, x)
		}
		is(t, "behind the end, and no room", takes(t, firsts(6), end+1, append([]api.Entry{message(9, 1)}, few[:n-1]...)...), api.ErrArg)
		for _, from := range []uint64{end + 2, top, top + 1, top + 2, 1<<63 - 1, 1 << 63, math.MaxUint64 - 4, math.MaxUint64 - 3, math.MaxUint64 - 2, math.MaxUint64 - 1, math.MaxUint64} {
			if from > end {
				is(t, "behind the end", takes(t, nil, from, few[:n]...), api.ErrArg)
			}
		}
	}
	for _, from := range []uint64{0, 1, top, top + 1, top + 2, 1 << 63, math.MaxUint64} {
		is(t, "none", takes(t, example(), from), api.OK, example()...)
	}
}

// P19.3: of any rows, and any entries.
func TestTakeOfAny(t *testing.T) {
	d := rand.New(rand.NewPCG(19, 4))
	codes := map[api.Errno]int{}
	for i := range 30000 {
		of := 1 + d.IntN(15)
		l, entries := drawRow(d, of), drawEntries(d, of)
		switch i % 8 {
		case 0:
			l = drawAny(d)
		case 1:
			entries = spoilt(d, entries)
		}
		x := takes(t, l, drawFrom(d, len(entries)), entries...)
		codes[x.e]++
		if x.e == api.OK && !seen.May(x.row...) {
			t.Fatalf("%v may not be", x.row)
		}
	}
	came(t, codes, 1000, api.OK, api.ErrArg, api.ErrFull)
}

// P19.3: all rows of up to six of few entries, into none, into some, and into a full row.
func TestTakeOfFew(t *testing.T) {
	few := []api.Entry{message(2, 1), message(2, 2), message(1, 1), message(7, 30), message(3, 12)}
	rows(6, few, func(entries []api.Entry) {
		takes(t, nil, 7, entries...)
		takes(t, example(), 7, entries...)
		takes(t, firsts(5), 7, entries...)
		takes(t, firsts(6), 7, entries...)
	})
}

// P19.3: another row's marks go into a row, each with its own offset.
func TestJoin(t *testing.T) {
	is(t, "none and none", joins(t, nil, nil), api.OK)
	is(t, "none into a row", joins(t, example(), nil), api.OK, example()...)
	is(t, "a row into none", joins(t, nil, example()), api.OK, example()...)
	is(t, "apart", joins(t, example(), []api.Mark{mark(1, 1, 1), mark(3, 1, 2), mark(5, 1, 4)}), api.OK, mark(1, 1, 1), mark(2, 5, 9), mark(3, 1, 2), mark(4, 1, 3), mark(5, 1, 4))
	is(t, "greater, lesser", joins(t, example(), []api.Mark{mark(2, 4, 30), mark(4, 2, 1)}), api.OK, mark(2, 5, 9), mark(4, 2, 1))
	is(t, "the same Seq: the first one stays", joins(t, example(), []api.Mark{mark(2, 5, 8), mark(4, 1, 40)}), api.OK, example()...)
	is(t, "the other way round", joins(t, []api.Mark{mark(2, 5, 8), mark(4, 1, 40)}, example()), api.OK, mark(2, 5, 8), mark(4, 1, 40))
	is(t, "six and the same six", joins(t, firsts(6), firsts(6)), api.OK, firsts(6)...)
	is(t, "six and one more", joins(t, firsts(6), []api.Mark{mark(7, 1, 1)}), api.ErrFull)
	is(t, "one and six others", joins(t, []api.Mark{mark(7, 1, 1)}, firsts(6)), api.ErrFull)
	is(t, "three and three", joins(t, firsts(3), []api.Mark{mark(13, 1, 1), mark(14, 1, 1), mark(15, 1, 1)}), api.OK, append(firsts(3), mark(13, 1, 1), mark(14, 1, 1), mark(15, 1, 1))...)
	is(t, "four and three", joins(t, firsts(4), []api.Mark{mark(13, 1, 1), mark(14, 1, 1), mark(15, 1, 1)}), api.ErrFull)
	is(t, "four and three, one of them there", joins(t, firsts(4), []api.Mark{mark(4, 13, 1), mark(14, 1, 1), mark(15, 1, 1)}), api.OK, append(firsts(4), mark(14, 1, 1), mark(15, 1, 1))...)
}

// P19.3: ErrArg, unless both rows may be, ahead of ErrFull.
func TestJoinOfWrong(t *testing.T) {
	for _, l := range [][]api.Mark{
		{mark(2, 1, 0), mark(1, 1, 0)}, {mark(2, 1, 0), mark(2, 2, 0)}, {mark(0, 1, 0)}, {mark(16, 1, 0)}, {mark(1, 0, 0)}, {mark(1, top+1, 0)}, {mark(1, 1, top+1)},
		{{}}, firsts(7), {mark(7, 1, 1), mark(8, 0, 1)},
	} {
		for _, other := range [][]api.Mark{nil, example(), firsts(6), l} {
			is(t, "a row that may not be first", joins(t, l, other), api.ErrArg)
			is(t, "a row that may not be behind", joins(t, other, l), api.ErrArg)
		}
	}
}

// P19.3: of any two rows.
func TestJoinOfAny(t *testing.T) {
	d := rand.New(rand.NewPCG(19, 5))
	codes := map[api.Errno]int{}
	for i := range 30000 {
		of := 1 + d.IntN(15)
		a, b := drawRow(d, of), drawRow(d, of)
		switch i % 8 {
		case 0:
			a = drawAny(d)
		case 1:
			b = drawAny(d)
		}
		x := joins(t, a, b)
		codes[x.e]++
		if x.e == api.OK && !seen.May(x.row...) {
			t.Fatalf("%v may not be", x.row)
		}
	}
	came(t, codes, 1000, api.OK, api.ErrArg, api.ErrFull)
}
