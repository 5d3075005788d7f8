package seen_test

import (
	"math"
	"math/rand/v2"
	"slices"
	"testing"

	"scrivener/api"
	"scrivener/seen"
)

// The chapter's examples.
func TestExamples(t *testing.T) {
	for _, x := range []struct {
		producer     int
		seq          uint64
		kind, offset int
	}{{2, 5, 1, 9}, {2, 4, 2, 0}, {2, 6, 0, 0}, {3, 1, 0, 0}} {
		if kind, offset := seen.Ask(example(), x.producer, x.seq); kind != x.kind || offset != uint64(x.offset) {
			t.Errorf("Ask(%d, %d): %d, %d", x.producer, x.seq, kind, offset)
		}
	}
	is := func(name string, got, want []api.Mark, e api.Errno) {
		t.Helper()
		if !slices.Equal(got, want) || e != api.OK {
			t.Errorf("%s: %v, %d, not %v", name, got, e, want)
		}
	}
	row, e := seen.Add(example(), mark(3, 7, 10))
	is("Add of a new one", row, []api.Mark{mark(2, 5, 9), mark(3, 7, 10), mark(4, 1, 3)}, e)
	row, e = seen.Add(example(), mark(2, 5, 11))
	is("Add of the last one", row, example(), e)
	row, e = seen.Take(example(), 20, message(4, 2), message(4, 2), message(2, 9))
	is("Take", row, []api.Mark{mark(2, 9, 22), mark(4, 2, 20)}, e)
	row = seen.Fold(example(), []api.Mark{mark(4, 2, 11), mark(2, 6, 12)}, 12)
	is("Fold", row, []api.Mark{mark(2, 5, 9), mark(4, 2, 11)}, api.OK)
	is("Cut", seen.Cut(example(), 9), []api.Mark{mark(4, 1, 3)}, api.OK)
}

// What the chapter says in numbers is what the given names stand for.
func TestNumbers(t *testing.T) {
	if api.MaxNodes != 15 || api.MaxCount != top || api.MaxMarks != 6 || api.MaxBody != 64 {
		t.Errorf("limits: %d, %d, %d, %d", api.MaxNodes, uint64(api.MaxCount), api.MaxMarks, api.MaxBody)
	}
	if api.SeenNew != 0 || api.SeenLast != 1 || api.SeenOld != 2 || api.SeenFull != 3 || api.ErrArg != 1 || api.ErrFull != 3 {
		t.Error("kinds")
	}
}

// P19.1: a row of one mark may be just if each of its numbers may; behind, and ahead of, another one too.
func TestMayOfOne(t *testing.T) {
	grid(func(m api.Mark, may bool) {
		if mays(t, m) != may {
			t.Fatalf("May(%v): %v", m, !may)
		}
		mays(t, mark(1, 1, 1), m)
		mays(t, m, mark(15, 1, 1))
		mays(t, mark(1, 1, 1), m, mark(15, 1, 1))
	})
	for producer := -300; producer <= 300; producer++ {
		if want := producer >= 1 && producer <= 15; mays(t, mark(producer, 1, 0)) != want {
			t.Errorf("May of the producer %d: %v", producer, !want)
		}
	}
	if mays(t, api.Mark{}) {
		t.Error("the zero one may be")
	}
}

// P19.1: the producers of a row rise: none is there twice, nor ahead of a lesser one. Seqs and offsets may stand anyhow.
func TestMayRises(t *testing.T) {
	good := [][]api.Mark{
		nil, {}, {mark(1, 1, 0)}, {mark(1, 1, 0), mark(2, 1, 0)}, {mark(3, 9, 9), mark(7, 1, 1), mark(15, 5, 5)},
		firsts(6), {mark(10, 1, 0), mark(11, 1, 0), mark(12, 1, 0), mark(13, 1, 0), mark(14, 1, 0), mark(15, 1, 0)},
	}
	for _, l := range good {
		if !mays(t, l...) {
			t.Errorf("May(%v): false", l)
		}
	}
	bad := [][]api.Mark{
		{mark(2, 1, 0), mark(1, 1, 0)}, {mark(2, 1, 0), mark(2, 1, 0)}, {mark(2, 1, 0), mark(2, 2, 1)},
		{mark(1, 1, 0), mark(3, 1, 0), mark(2, 1, 0)}, {mark(1, 1, 0), mark(3, 1, 0), mark(3, 1, 0)}, {mark(2, 1, 0), mark(1, 1, 0), mark(3, 1, 0)},
		{mark(1, 1, 0), mark(5, 1, 0), mark(2, 1, 0), mark(4, 1, 0)},
	}
	for _, l := range bad {
		if mays(t, l...) {
			t.Errorf("May(%v): true", l)
		}
	}
	rows(4, []api.Mark{mark(1, 1, 0), mark(2, 1, 0), mark(3, 2, 1), mark(15, 1, 1), mark(16, 1, 0), mark(2, 0, 0)}, func(l []api.Mark) { mays(t, l...) })
}

// P19.1: a row has at most six marks.
func TestMayOfMany(t *testing.T) {
	for n := range 16 {
		if want := n <= 6; mays(t, firsts(n)...) != want {
			t.Errorf("May of %d: %v", n, !want)
		}
	}
	if mays(t, make([]api.Mark, 100000)...) {
		t.Error("many zero ones may be")
	}
}

// P19.1: two rows are the same just if they have the same marks, as they stand.
func TestSame(t *testing.T) {
	all := [][]api.Mark{
		nil, example(), firsts(1), firsts(2), firsts(6), firsts(7), {{}}, {{}, {}},
		{mark(4, 1, 3), mark(2, 5, 9)}, {mark(2, 5, 9)}, {mark(4, 1, 3)}, {mark(2, 5, 9), mark(4, 1, 3), mark(4, 1, 3)}, {mark(2, 5, 9), mark(2, 5, 9), mark(4, 1, 3)},
	}
	for _, i := range []int{0, 1} {
		for _, m := range []api.Mark{mark(1, 0, 0), mark(-1, 0, 0), mark(1<<32, 0, 0), mark(0, 1, 0), mark(0, 1<<63, 0), mark(0, 0, 1), mark(0, 0, 1<<63)} {
			l := example()
			l[i] = mark(l[i].Producer+m.Producer, l[i].Seq+m.Seq, l[i].Offset+m.Offset)
			all = append(all, l)
		}
	}
	for i, a := range all {
		for k, b := range all {
			if seen.Same(slices.Clone(a), slices.Clone(b)) != (i == k) {
				t.Errorf("Same(%v, %v): %v", a, b, i != k)
			}
		}
	}
	if !seen.Same(nil, []api.Mark{}) || !seen.Same(make([]api.Mark, 0, 9), nil) {
		t.Error("one that is none is not an empty one")
	}
	if a := firsts(6); !seen.Same(a[:2], firsts(2)) || seen.Same(a[:2], a) {
		t.Error("room behind a row's end plays a part")
	}
}

// P19.1: a producer's last mark is that which stands behind all others of it, whatever their numbers.
func TestLast(t *testing.T) {
	for _, x := range []struct {
		l        []api.Mark
		producer int
		want     api.Mark
		ok       bool
	}{
		{nil, 1, api.Mark{}, false},
		{nil, 0, api.Mark{}, false},
		{example(), 2, mark(2, 5, 9), true},
		{example(), 4, mark(4, 1, 3), true},
		{example(), 3, api.Mark{}, false},
		{example(), 0, api.Mark{}, false},
		{example(), 5, api.Mark{}, false},
		{firsts(6), 1, mark(1, 10, 20), true},
		{firsts(6), 6, mark(6, 15, 25), true},
		{firsts(6), 7, api.Mark{}, false},
		{[]api.Mark{mark(2, 9, 9), mark(2, 1, 1)}, 2, mark(2, 1, 1), true},
		{[]api.Mark{mark(2, 1, 1), mark(2, 9, 9), mark(1, 3, 3)}, 2, mark(2, 9, 9), true},
		{[]api.Mark{mark(5, 1, 1), mark(2, 9, 9), mark(5, 1, 7), mark(2, 8, 8)}, 5, mark(5, 1, 7), true},
		{[]api.Mark{{}}, 0, api.Mark{}, true},
		{[]api.Mark{mark(-3, 0, 1<<63)}, -3, mark(-3, 0, 1<<63), true},
		{[]api.Mark{mark(math.MinInt, 1, 1), mark(math.MaxInt, 2, 2)}, math.MinInt, mark(math.MinInt, 1, 1), true},
		{[]api.Mark{mark(1<<32+1, 1, 1)}, 1, api.Mark{}, false},
	} {
		if got, ok := seen.Last(x.l, x.producer); got != x.want || ok != x.ok {
			t.Errorf("Last(%v, %d): %v, %v", x.l, x.producer, got, ok)
		}
	}
	rows(5, []api.Mark{mark(1, 1, 1), mark(1, 2, 2), mark(2, 1, 1), mark(3, 5, 5), mark(0, 0, 0)}, func(l []api.Mark) {
		for producer := -1; producer < 5; producer++ {
			ends(t, l, producer)
		}
	})
	d := rand.New(rand.NewPCG(19, 1))
	for range 3000 {
		l := drawAny(d)
		for producer := -1; producer < 18; producer++ {
			ends(t, l, producer)
		}
		for _, m := range l {
			ends(t, l, m.Producer)
		}
	}
}

// P19.2: what is to be done with a message, by its producer's last mark.
func TestAsk(t *testing.T) {
	zero := []api.Mark{mark(3, 0, 8)}
	greatest := []api.Mark{mark(3, math.MaxUint64, math.MaxUint64)}
	for _, x := range []struct {
		name     string
		l        []api.Mark
		producer int
		seq      uint64
		kind     int
		offset   uint64
	}{
		{"an empty row", nil, 1, 1, api.SeenNew, 0},
		{"the last one", example(), 4, 1, api.SeenLast, 3},
		{"one behind", example(), 4, 2, api.SeenNew, 0},
		{"one ahead", example(), 4, 0, api.SeenOld, 0},
		{"far behind", example(), 2, top, api.SeenNew, 0},
		{"without a mark, Seq 0", example(), 3, 0, api.SeenNew, 0},
		{"without a mark, in a row of five", firsts(5), 6, 1, api.SeenNew, 0},
		{"without a mark, in a row of six", firsts(6), 7, 1, api.SeenFull, 0},
		{"without a mark, in a row of six, Seq 0", firsts(6), 7, 0, api.SeenFull, 0},
		{"without a mark, in a row of seven", firsts(7), 8, 1, api.SeenFull, 0},
		{"without a mark, in a row of fifteen", firsts(15), 16, 1, api.SeenFull, 0},
		{"the last one, in a row of six", firsts(6), 6, 15, api.SeenLast, 25},
		{"an old one, in a row of six", firsts(6), 6, 14, api.SeenOld, 0},
		{"a new one, in a row of six", firsts(6), 6, 16, api.SeenNew, 0},
		{"the last one, in a row of fifteen", firsts(15), 15, 24, api.SeenLast, 34},
		{"an old one, in a row of fifteen", firsts(15), 15, 23, api.SeenOld, 0},
		{"a new one, in a row of fifteen", firsts(15), 15, 25, api.SeenNew, 0},
		{"six marks of one producer, and another one", slices.Repeat([]api.Mark{mark(2, 5, 9)}, 6), 3, 1, api.SeenFull, 0},
		{"a mark whose Seq is 0", zero, 3, 0, api.SeenLast, 8},
		{"behind a mark whose Seq is 0", zero, 3, 1, api.SeenNew, 0},
		{"the greatest Seq", greatest, 3, math.MaxUint64, api.SeenLast, math.MaxUint64},
		{"ahead of the greatest Seq", greatest, 3, math.MaxUint64 - 1, api.SeenOld, 0},
		{"far ahead of the greatest Seq", greatest, 3, 0, api.SeenOld, 0},
		{"two marks, the Seq of the first one", []api.Mark{mark(2, 9, 9), mark(2, 5, 7)}, 2, 9, api.SeenNew, 0},
		{"two marks, the Seq of the last one", []api.Mark{mark(2, 9, 9), mark(2, 5, 7)}, 2, 5, api.SeenLast, 7},
		{"two marks, a Seq between", []api.Mark{mark(2, 5, 7), mark(2, 9, 9)}, 2, 6, api.SeenOld, 0},
		{"a producer that may not be", []api.Mark{mark(-2, 5, 7)}, -2, 5, api.SeenLast, 7},
	} {
		if kind, offset := seen.Ask(x.l, x.producer, x.seq); kind != x.kind || offset != x.offset {
			t.Errorf("%s: %d, %d, not %d, %d", x.name, kind, offset, x.kind, x.offset)
		}
	}
}

// P19.2: of any rows, all edges about each mark's number.
func TestAskOfAny(t *testing.T) {
	d := rand.New(rand.NewPCG(19, 2))
	kinds := map[int]int{}
	for range 3000 {
		l := drawAny(d)
		for _, m := range append(slices.Clone(l), mark(16, few(d, 0), 0)) {
			for _, seq := range []uint64{0, 1, m.Seq - 1, m.Seq, m.Seq + 1, edge(d)} {
				kinds[asks(t, l, m.Producer, seq)]++
				kinds[asks(t, l, d.IntN(18), seq)]++
			}
		}
	}
	came(t, kinds, 1000, api.SeenNew, api.SeenLast, api.SeenOld, api.SeenFull)
}
