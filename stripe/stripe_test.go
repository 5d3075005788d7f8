package stripe_test

import (
	"math"
	"math/rand/v2"
	"slices"
	"testing"

	"scrivener/api"
	"scrivener/stripe"
)

// The examples of the chapter.
func TestExamples(t *testing.T) {
	l := []api.Frag{frag(3, firsts(7, 8, 9)...)}
	isSet(t, l, 2, 3, firsts(7, 8)...)
	isSet(t, l, 2, 5, firsts(9, 7)...)
	isSet(t, l, 2, 2)
	isCovered(t, false, l[0], 2, 2, firsts(7)...)
	isCovered(t, true, l[0], 2, 2, firsts(7, 8, 9)...)
	isCovered(t, true, l[0], 2, 2, firsts(7, 9)...)
	isPicked(t, firsts(7, 9), api.OK, firsts(7, 8, 9), 3, 2, 8)
	isPicked(t, nil, api.ErrFull, firsts(7, 8, 9), 3, 3, 8)
}

// P14.1: the last one in the row whose First is at most the entry's number, whatever stands there.
func TestFrag(t *testing.T) {
	a, b, c := frag(1, firsts(1, 2)...), frag(4, firsts(3)...), frag(9, firsts(4, 5, 6)...)
	rise := []api.Frag{a, b, c}
	none := api.Frag{}
	isFrag(t, rise, 0, none, false)
	for n, want := range map[uint64]api.Frag{1: a, 2: a, 3: a, 4: b, 5: b, 8: b, 9: c, 10: c, 1 << 40: c, math.MaxUint64: c} {
		isFrag(t, rise, n, want, true)
	}
	isFrag(t, nil, 0, none, false)
	isFrag(t, nil, 1, none, false)
	isFrag(t, []api.Frag{}, math.MaxUint64, none, false)
	fall := []api.Frag{c, b, a}
	isFrag(t, fall, 0, none, false)
	isFrag(t, fall, 1, a, true)
	isFrag(t, fall, 99, a, true)
	other := frag(4, firsts(9)...)
	isFrag(t, []api.Frag{b, other}, 4, other, true)
	isFrag(t, []api.Frag{other, b}, 4, b, true)
	isFrag(t, []api.Frag{a, c, b}, 9, b, true)
	isFrag(t, []api.Frag{c, a, c, c}, 8, a, true)
	empty, last := frag(0), frag(math.MaxUint64, firsts(1)...)
	isFrag(t, []api.Frag{empty, last}, 0, empty, true)
	isFrag(t, []api.Frag{empty, last}, math.MaxUint64-1, empty, true)
	isFrag(t, []api.Frag{empty, last}, math.MaxUint64, last, true)
	isFrag(t, []api.Frag{last}, math.MaxUint64-1, none, false)
	isFrag(t, []api.Frag{a, none}, 1, none, true)
}

// numbers are entries' numbers about all edges.
var numbers = []uint64{0, 1, 2, 3, 4, 5, 7, 8, 9, 10, 1<<32 - 1, 1 << 32, 1<<62 - 1, 1<<63 - 1, 1 << 63, math.MaxUint64 - 1, math.MaxUint64}

// P14.1: rows of any fragments, in any order.
func TestFragOfAny(t *testing.T) {
	d := rand.New(rand.NewPCG(14, 1))
	for range 30000 {
		var l []api.Frag
		for range d.IntN(6) {
			l = append(l, frag(oneOf(d, numbers), anyRow(d, 3, places(3))...))
		}
		n := oneOf(d, numbers)
		if i := fragOf(l, n); i >= 0 {
			isFrag(t, l, n, l[i], true)
		} else {
			isFrag(t, l, n, api.Frag{}, false)
		}
	}
}

// P14.1: the write set goes round, from entry to entry one place on.
func TestSet(t *testing.T) {
	l := []api.Frag{frag(1, firsts(1, 2, 3, 4, 5)...), frag(4, firsts(6, 7, 8)...)}
	for n, want := range [][]int{nil, {1, 2, 3}, {2, 3, 4}, {3, 4, 5}, {6, 7, 8}, {7, 8, 6}, {8, 6, 7}, {6, 7, 8}} {
		isSet(t, l, 3, uint64(n), firsts(want...)...)
	}
	for n, want := range [][]int{nil, {1}, {2}, {3}, {6}, {7}, {8}, {6}} {
		isSet(t, l, 1, uint64(n), firsts(want...)...)
	}
	for n, want := range [][]int{nil, {1, 2, 3, 4, 5}, {2, 3, 4, 5, 1}, {3, 4, 5, 1, 2}, nil, nil} {
		isSet(t, l, 5, uint64(n), firsts(want...)...)
	}
	for n, want := range [][]int{nil, {1, 2, 3, 4}, {2, 3, 4, 5}, {3, 4, 5, 1}, nil, nil} {
		isSet(t, l, 4, uint64(n), firsts(want...)...)
	}
	for n, want := range [][]int{{1, 2, 3, 4}, {2, 3, 4, 5}, {3, 4, 5, 1}, {4, 5, 1, 2}, {5, 1, 2, 3}, {1, 2, 3, 4}} {
		isSet(t, l[:1], 4, uint64(n)+1, firsts(want...)...)
	}
}

// P14.1: there is none, if there is no fragment, or w is none of it.
func TestNoSet(t *testing.T) {
	row := frag(2, firsts(1, 2, 3)...)
	for _, w := range extremes {
		isSet(t, nil, w, 5)
		isSet(t, []api.Frag{row}, w, 1)
		isSet(t, []api.Frag{row}, w, 0)
		isSet(t, []api.Frag{frag(0)}, w, 7)
		isSet(t, []api.Frag{row, frag(2)}, w, 7)
		isSet(t, []api.Frag{row, frag(8)}, w, 7, setOf([]api.Frag{row}, w, 7)...)
		if got := len(stripe.Set([]api.Frag{row}, w, 2)); w < 1 && got != 0 || w > 3 && got != 0 || w >= 1 && w <= 3 && got != w {
			t.Errorf("%d: %d places", w, got)
		}
	}
}

// P14.1: numbers of entries, and Firsts, about all edges, with rows of any length.
func TestSetOfAny(t *testing.T) {
	long := make([]api.Place, 1000)
	for i := range long {
		long[i] = at(i, uint64(i))
	}
	for size := range 9 {
		for _, first := range numbers {
			for _, n := range numbers {
				for w := -1; w <= size+1; w++ {
					l := []api.Frag{frag(first, long[:size]...)}
					isSet(t, l, w, n, setOf(l, w, n)...)
				}
			}
		}
	}
	for _, w := range []int{1, 2, 999, 1000, 1001} {
		for _, n := range numbers {
			l := []api.Frag{frag(0, long...)}
			isSet(t, l, w, n, setOf(l, w, n)...)
		}
	}
}

// P14.1: any rows of fragments, with places that stand twice, and such as may not be.
func TestSetOfAnyRows(t *testing.T) {
	d := rand.New(rand.NewPCG(14, 2))
	of := append(places(3), api.Place{}, at(-1, 0), at(math.MaxInt, math.MaxUint64))
	for range 30000 {
		var l []api.Frag
		for range d.IntN(5) {
			l = append(l, frag(oneOf(d, numbers), anyRow(d, 7, of)...))
		}
		w, n := d.IntN(8)-1, oneOf(d, numbers)
		isSet(t, l, w, n, setOf(l, w, n)...)
	}
}

// P14.2: how many of the set are among those who answered.
func TestAcked(t *testing.T) {
	set := firsts(7, 8, 9)
	isAcked(t, false, set, 1)
	isAcked(t, true, set, 1, firsts(9)...)
	isAcked(t, false, set, 2, firsts(9)...)
	isAcked(t, false, set, 2, firsts(9, 9, 9)...)
	isAcked(t, true, set, 2, firsts(9, 7)...)
	isAcked(t, false, set, 2, firsts(9, 6, 5, 4)...)
	isAcked(t, false, set, 2, at(9, 1), at(8, 2), at(7, 0))
	isAcked(t, true, set, 3, firsts(4, 9, 9, 8, 6, 7)...)
	isAcked(t, false, set, 4, firsts(7, 8, 9, 7, 8, 9)...)
	isAcked(t, false, nil, 1, firsts(7)...)
	twice := firsts(7, 7, 8)
	isAcked(t, true, twice, 1, firsts(7)...)
	isAcked(t, false, twice, 2, firsts(7)...)
	isAcked(t, false, twice, 2, firsts(7, 7)...)
	isAcked(t, true, twice, 2, firsts(7, 8)...)
	isAcked(t, false, twice, 3, firsts(7, 8)...)
	for _, a := range extremes {
		isAcked(t, a >= 1 && a <= 3, set, a, set...)
		isAcked(t, false, set, a)
		isAcked(t, false, nil, a, set...)
		isAcked(t, false, nil, a)
	}
}

// P14.2: how many of the set must have answered, so that the others of w cannot be a.
func TestMissing(t *testing.T) {
	set := firsts(7, 8, 9)
	for _, c := range []struct{ a, need int }{{1, 3}, {2, 2}, {3, 1}} {
		for n := range 4 {
			isMissing(t, n >= c.need, set, 3, c.a, set[:n]...)
			isMissing(t, n >= c.need, set, 3, c.a, slices.Concat(set[:n], set[:n], firsts(1, 2, 3))...)
			isMissing(t, n >= c.need, set, 3, c.a, append(set[3-n:], at(7, 2), at(8, 2))...)
		}
	}
	isMissing(t, true, set, 3, 4)
	isMissing(t, true, nil, 3, 4)
	isMissing(t, false, set, 3, 3)
	isMissing(t, false, set, 3, 0, set...)
	isMissing(t, false, set, 4, 1, set...)
	isMissing(t, true, set, 4, 2, set...)
	isMissing(t, true, set, 2, 0, set...)
	isMissing(t, true, set, 0, 0, firsts(8)...)
	isMissing(t, false, set, 0, 0, firsts(6)...)
	isMissing(t, true, set, -2, -4, set...)
	isMissing(t, false, set, -2, -5, set...)
	twice := firsts(7, 7, 8)
	isMissing(t, false, twice, 3, 2, firsts(7)...)
	isMissing(t, true, twice, 3, 2, firsts(7, 8)...)
	for _, w := range extremes {
		for _, a := range extremes {
			for _, from := range [][]api.Place{nil, firsts(7), firsts(7, 9), set} {
				isMissing(t, missing(set, w, a, from), set, w, a, from...)
				isMissing(t, missing(nil, w, a, from), nil, w, a, from...)
			}
		}
	}
}

// P14.2: all short rows of few places, with such as stand twice.
func TestAnswersOfFew(t *testing.T) {
	of := []api.Place{at(1, 1), at(1, 2), at(2, 1)}
	for set := range rows(4, of) {
		for from := range rows(3, of) {
			for a := -1; a <= 5; a++ {
				isAcked(t, acked(set, a, from), set, a, from...)
				w := len(set)
				isMissing(t, missing(set, w, a, from), set, w, a, from...)
				isMissing(t, missing(set, w-1, a, from), set, w-1, a, from...)
				for w := range 6 {
					isCovered(t, covered(frag(1, set...), w, a, from), frag(1, set...), w, a, from...)
				}
			}
		}
	}
}

// P14.2: each write set of the fragment counts; w is none, or one that the fragment has.
func TestCovered(t *testing.T) {
	five := frag(4, firsts(1, 2, 3, 4, 5)...)
	isCovered(t, false, five, 3, 3, firsts(1)...)
	isCovered(t, false, five, 3, 3, firsts(1, 2)...)
	isCovered(t, false, five, 3, 3, firsts(4, 5, 5, 5, 9)...)
	isCovered(t, true, five, 3, 3, firsts(1, 3)...)
	isCovered(t, true, five, 3, 3, firsts(3, 1)...)
	isCovered(t, true, five, 3, 3, firsts(2, 5)...)
	isCovered(t, true, five, 3, 3, firsts(1, 4)...)
	isCovered(t, false, five, 3, 3, at(1, 1), at(3, 2))
	isCovered(t, false, five, 3, 2, firsts(1, 3)...)
	isCovered(t, false, five, 3, 2, firsts(1, 2, 3)...)
	isCovered(t, true, five, 3, 2, firsts(1, 2, 4, 5)...)
	isCovered(t, true, five, 3, 2, firsts(1, 2, 4, 5, 1)...)
	isCovered(t, false, five, 3, 1, firsts(1, 2, 4, 5)...)
	isCovered(t, true, five, 3, 1, five.Bookies...)
	isCovered(t, false, five, 3, 0, five.Bookies...)
	isCovered(t, true, five, 3, 4)
	isCovered(t, true, five, 5, 6)
	isCovered(t, false, five, 5, 5)
	isCovered(t, true, five, 5, 5, firsts(3)...)
	for _, w := range extremes {
		for _, a := range extremes {
			for _, from := range [][]api.Place{nil, firsts(1), firsts(1, 3), five.Bookies} {
				isCovered(t, covered(five, w, a, from), five, w, a, from...)
			}
			isCovered(t, false, api.Frag{}, w, a, five.Bookies...)
			isCovered(t, false, frag(7), w, a)
			isCovered(t, w == 1 && a >= 1, frag(math.MaxUint64, at(0, 0)), w, a, at(0, 0))
		}
	}
}

// P14.2: the fragment's First plays no part in what covers it.
func TestCoveredAtAnyFirst(t *testing.T) {
	for _, first := range numbers {
		for from := range rows(3, firsts(1, 2, 3, 4)) {
			f := frag(first, firsts(1, 2, 3, 4)...)
			isCovered(t, covered(f, 2, 2, from), f, 2, 2, from...)
		}
	}
}

// P14.2: many places, and many answers.
func TestManyAnswers(t *testing.T) {
	var set []api.Place
	for i := range 50000 {
		set = append(set, at(i, 1))
	}
	from := slices.Concat(set[:30000], set[:30000])
	slices.Reverse(from)
	isAcked(t, true, set, 30000, from...)
	isAcked(t, false, set, 30001, from...)
	isMissing(t, true, set, 50000, 20001, from...)
	isMissing(t, false, set, 50000, 20000, from...)
	isCovered(t, false, frag(1, set...), 3, 3, from...)
	isCovered(t, true, frag(1, set...), 3, 3, append(from, set[30002:]...)...)
	isCovered(t, false, frag(1, set...), 2, 2, append(from, set[30002:]...)...)
}
