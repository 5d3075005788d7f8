package seen_test

import (
	"math"
	"math/rand/v2"
	"slices"
	"testing"

	"scrivener/api"
)

// row looks whether a row is that one.
func row(t *testing.T, name string, got []api.Mark, want ...api.Mark) {
	t.Helper()
	holds(t, told{row: got}, told{row: want}, name)
}

// P19.4: what stands below an offset stays, as it stands.
func TestCut(t *testing.T) {
	row(t, "none", cuts(t, nil, 9))
	row(t, "at 0", cuts(t, []api.Mark{mark(1, 1, 0)}, 0))
	row(t, "0 below 1", cuts(t, []api.Mark{mark(1, 1, 0)}, 1), mark(1, 1, 0))
	row(t, "all stay", cuts(t, example(), 10), example()...)
	row(t, "all go", cuts(t, example(), 3))
	row(t, "the last one stays", cuts(t, example(), 4), mark(4, 1, 3))
	row(t, "the first one stays", cuts(t, []api.Mark{mark(2, 5, 3), mark(4, 1, 9)}, 9), mark(2, 5, 3))
	row(t, "below the greatest", cuts(t, []api.Mark{mark(1, 1, top), mark(2, 1, math.MaxUint64), mark(3, 1, math.MaxUint64-1)}, math.MaxUint64), mark(1, 1, top), mark(3, 1, math.MaxUint64-1))
	row(t, "as they stand, and twice", cuts(t, []api.Mark{mark(4, 1, 3), mark(2, 5, 9), mark(4, 1, 3), mark(-1, 0, 2), mark(2, 1, 1)}, 9), mark(4, 1, 3), mark(4, 1, 3), mark(-1, 0, 2), mark(2, 1, 1))
	row(t, "more than six", cuts(t, firsts(15), 34), firsts(14)...)
}

// P19.4: of any rows, at each edge.
func TestCutOfAny(t *testing.T) {
	rows(4, []api.Mark{mark(1, 1, 0), mark(2, 1, 1), mark(1, 2, 2), mark(3, 0, math.MaxUint64), mark(0, 9, 1)}, func(l []api.Mark) {
		for _, at := range []uint64{0, 1, 2, 3, math.MaxUint64} {
			cuts(t, l, at)
		}
	})
	d := rand.New(rand.NewPCG(19, 6))
	for range 3000 {
		l := drawAny(d)
		for _, m := range l {
			for _, at := range []uint64{m.Offset - 1, m.Offset, m.Offset + 1} {
				cuts(t, l, at)
			}
		}
		cuts(t, l, edge(d))
	}
}

// P19.4: each producer's last one below an offset, that of the log ahead of that of the base, whatever its Seq.
func TestFold(t *testing.T) {
	log := []api.Mark{mark(4, 2, 11), mark(2, 6, 12)}
	row(t, "none", folds(t, nil, nil, 9))
	row(t, "a base alone", folds(t, example(), nil, 10), example()...)
	row(t, "a base alone, cut", folds(t, example(), nil, 9), mark(4, 1, 3))
	row(t, "a log alone", folds(t, nil, log, 13), mark(2, 6, 12), mark(4, 2, 11))
	row(t, "a log alone, cut", folds(t, nil, log, 12), mark(4, 2, 11))
	row(t, "nothing of the log yet", folds(t, example(), log, 11), example()...)
	row(t, "all of it", folds(t, example(), log, 13), mark(2, 6, 12), mark(4, 2, 11))
	row(t, "below all", folds(t, example(), log, 3))
	row(t, "at 0", folds(t, []api.Mark{mark(1, 1, 0)}, log, 0))
	row(t, "0 below 1", folds(t, []api.Mark{mark(1, 1, 0)}, log, 1), mark(1, 1, 0))
	row(t, "a lesser Seq behind", folds(t, example(), []api.Mark{mark(2, 1, 10)}, 11), mark(2, 1, 10), mark(4, 1, 3))
	row(t, "the same Seq behind", folds(t, example(), []api.Mark{mark(2, 5, 10)}, 11), mark(2, 5, 10), mark(4, 1, 3))
	row(t, "a lesser offset behind", folds(t, example(), []api.Mark{mark(2, 9, 1)}, 11), mark(2, 9, 1), mark(4, 1, 3))
	row(t, "the last one is not below", folds(t, example(), []api.Mark{mark(2, 6, 10), mark(2, 7, 11)}, 11), mark(2, 6, 10), mark(4, 1, 3))
	row(t, "one that is below, behind one that is not", folds(t, nil, []api.Mark{mark(2, 7, 11), mark(2, 6, 10)}, 11), mark(2, 6, 10))
	row(t, "a base that does not rise", folds(t, []api.Mark{mark(4, 1, 3), mark(2, 5, 9), mark(4, 9, 1)}, nil, 10), mark(2, 5, 9), mark(4, 9, 1))
	row(t, "producers that may not be", folds(t, []api.Mark{mark(0, 1, 3), mark(-7, 5, 9)}, []api.Mark{mark(math.MinInt, 0, 4), mark(math.MaxInt, 1, 1), mark(16, 0, 0)}, 10), mark(math.MinInt, 0, 4), mark(-7, 5, 9), mark(0, 1, 3), mark(16, 0, 0), mark(math.MaxInt, 1, 1))
	row(t, "below the greatest", folds(t, nil, []api.Mark{mark(1, 1, math.MaxUint64-1), mark(1, 2, math.MaxUint64)}, math.MaxUint64), mark(1, 1, math.MaxUint64-1))
	row(t, "more than six", folds(t, firsts(7), []api.Mark{mark(9, 1, 1), mark(8, 1, 1)}, 100), append(firsts(7), mark(8, 1, 1), mark(9, 1, 1))...)
}

// P19.4: of any rows, at each edge; all short rows of few marks among them.
func TestFoldOfAny(t *testing.T) {
	few := []api.Mark{mark(1, 2, 0), mark(2, 1, 1), mark(1, 1, 2), mark(2, 3, 3)}
	rows(3, few, func(base []api.Mark) {
		rows(3, few, func(log []api.Mark) {
			for at := range uint64(5) {
				folds(t, base, log, at)
			}
		})
	})
	d := rand.New(rand.NewPCG(19, 7))
	for range 3000 {
		base, log := drawAny(d), drawAny(d)
		for _, m := range slices.Concat(base, log) {
			folds(t, base, log, m.Offset)
			folds(t, base, log, m.Offset+1)
		}
		folds(t, base, log, edge(d))
	}
}

// P19.4: long rows: many producers, and many marks of few.
func TestFoldOfMany(t *testing.T) {
	const many = 1 << 18
	var unlike, alike []api.Mark
	for i := range many {
		unlike = append(unlike, mark(many-i, uint64(i), uint64(i)))
		alike = append(alike, mark(i%7, uint64(i/7), uint64(i)))
	}
	want := slices.Clone(unlike)
	slices.Reverse(want)
	row(t, "unlike ones", folds(t, unlike[:many/2], unlike[many/2:], many), want...)
	row(t, "unlike ones, cut", folds(t, unlike, unlike, many/2), want[many/2:]...)
	if l := folds(t, alike, alike, many); len(l) != 7 {
		t.Errorf("%d of seven", len(l))
	}
	if l := cuts(t, unlike, many/3); len(l) != many/3 {
		t.Errorf("%d below", len(l))
	}
}
