package ballot_test

import (
	"bytes"
	"math"
	"math/rand/v2"
	"slices"
	"strconv"
	"strings"
	"testing"

	"scrivener/api"
	"scrivener/ballot"
)

// top is the greatest number that a round, or a life, may have.
const top = 1<<62 - 1

// bal tells a ballot by its numbers.
func bal(round uint64, node int, inc uint64) api.Ballot {
	return api.Ballot{Round: round, Node: node, Inc: inc}
}

// label tells a ballot as a text.
func label(b api.Ballot) string {
	return strconv.FormatUint(b.Round, 10) + " " + strconv.Itoa(b.Node) + "." + strconv.FormatUint(b.Inc, 10)
}

// counts are numbers of rounds, and of lives, about all edges; false: none may have it.
var counts = map[uint64]bool{
	0: false, 1: true, 2: true, 3: true, 255: true, 1 << 32: true, 1<<32 + 1: true, top - 1: true, top: true,
	top + 1: false, top + 2: false, 1<<63 - 1: false, 1 << 63: false, 1<<63 + 1: false, math.MaxUint64 - 1: false, math.MaxUint64: false,
}

// nodes are numbers of nodes about all edges; false: none has it.
var nodes = map[int]bool{
	0: false, 1: true, 2: true, 3: true, 9: true, 14: true, 15: true,
	-1: false, -2: false, -15: false, 16: false, 17: false, 255: false, 257: false, 1<<32 + 1: false,
	math.MinInt: false, math.MinInt + 1: false, math.MinInt32: false, math.MaxInt32: false, math.MaxInt - 1: false, math.MaxInt: false,
}

// grid tells all ballots of these numbers, and whether each may be.
func grid() map[api.Ballot]bool {
	all := map[api.Ballot]bool{}
	for round, r := range counts {
		for node, n := range nodes {
			for inc, i := range counts {
				all[bal(round, node, inc)] = r && n && i
			}
		}
	}
	return all
}

// few tells ballots of few numbers, so that many of them have some in common.
func few() []api.Ballot {
	var l []api.Ballot
	for _, round := range []uint64{0, 1, 2, top, 1 << 63, math.MaxUint64} {
		for _, node := range []int{math.MinInt, -1, 0, 1, 2, 15, math.MaxInt} {
			for _, inc := range []uint64{0, 1, 2, top, 1 << 63, math.MaxUint64} {
				l = append(l, bal(round, node, inc))
			}
		}
	}
	return l
}

// order tells which of two ballots goes ahead as the chapter's words say it.
func order(a, b api.Ballot) int {
	switch {
	case a.Round < b.Round:
		return -1
	case a.Round > b.Round:
		return 1
	case a.Node < b.Node:
		return -1
	case a.Node > b.Node:
		return 1
	case a.Inc < b.Inc:
		return -1
	case a.Inc > b.Inc:
		return 1
	}
	return 0
}

// next looks whether Next answers that, and no ballot beside an error.
func next(t *testing.T, want api.Ballot, e api.Errno, node int, inc uint64, seen ...api.Ballot) {
	t.Helper()
	if b, got := ballot.Next(node, inc, seen...); b != want || got != e {
		t.Errorf("Next(%d, %d, %v): %s, %d, not %s, %d", node, inc, seen, label(b), got, label(want), e)
	}
}

// quorum looks whether Quorum answers that.
func quorum(t *testing.T, want bool, n int, from ...int) {
	t.Helper()
	if got := ballot.Quorum(n, from...); got != want {
		t.Fatalf("Quorum(%d, %v) of %d nodes: %v", n, from[:min(len(from), 20)], len(from), got)
	}
}

// promise tells a promise, all of whose fields have something.
func promise(from int, accepted api.Ballot, value string) api.Promise {
	return api.Promise{From: from, Promised: bal(top, from, 7), Accepted: accepted, Value: []byte(value)}
}

// alike tells whether two promises are the same.
func alike(a, b api.Promise) bool {
	return a.From == b.From && a.Promised == b.Promised && a.Accepted == b.Accepted && bytes.Equal(a.Value, b.Value)
}

// highest looks whether Highest answers the promise of that number; -1: none.
func highest(t *testing.T, want int, l ...api.Promise) {
	t.Helper()
	p, ok := ballot.Highest(l...)
	var q api.Promise
	if want >= 0 {
		q = l[want]
	}
	if ok != (want >= 0) || !alike(p, q) {
		t.Errorf("Highest(%v): %v, %v, not number %d", l, p, ok, want)
	}
}

// The chapter's examples.
func TestExamples(t *testing.T) {
	if ballot.Cmp(bal(2, 1, 1), bal(1, 3, 9)) != 1 || ballot.Cmp(bal(1, 2, 5), bal(1, 2, 4)) != 1 {
		t.Error("Cmp")
	}
	next(t, bal(5, 3, 7), api.OK, 3, 7, bal(4, 1, 1), bal(2, 2, 2))
	next(t, api.Ballot{}, api.ErrArg, 0, 1)
	quorum(t, false, 3, 1, 1)
	quorum(t, true, 3, 1, 3)
	quorum(t, true, 1, 1)
}

// P6.1: a ballot may be just if each of its numbers may.
func TestMay(t *testing.T) {
	if api.MaxCount != top || api.MaxNodes != 15 {
		t.Errorf("limits: %d, %d", uint64(api.MaxCount), api.MaxNodes)
	}
	for b, want := range grid() {
		if ballot.May(b) != want {
			t.Errorf("May(%s): %v", label(b), !want)
		}
	}
	for node := -300; node <= 300; node++ {
		if want := node >= 1 && node <= 15; ballot.May(bal(1, node, 1)) != want {
			t.Errorf("May of node %d: %v", node, !want)
		}
	}
}

// P6.1: the order goes by Round, then by Node, then by Inc, of any ballots.
func TestCmp(t *testing.T) {
	for _, a := range few() {
		for _, b := range few() {
			if got, want := ballot.Cmp(a, b), order(a, b); got != want {
				t.Fatalf("Cmp(%s, %s): %d, not %d", label(a), label(b), got, want)
			}
		}
	}
}

// P6.1: the zero ballot stands ahead of all that may be.
func TestZeroIsAhead(t *testing.T) {
	for b, may := range grid() {
		if may && (ballot.Cmp(api.Ballot{}, b) != -1 || ballot.Cmp(b, api.Ballot{}) != 1) {
			t.Errorf("%s is not behind the zero one", label(b))
		}
	}
	if ballot.Cmp(api.Ballot{}, api.Ballot{}) != 0 || ballot.May(api.Ballot{}) {
		t.Error("the zero ballot")
	}
}

// P6.2: a ballot's node and life are those that were asked for; ErrArg, if they may not be, whatever was seen.
func TestNextOfLives(t *testing.T) {
	for node, n := range nodes {
		for inc, i := range counts {
			want, e := bal(1, node, inc), api.OK
			if !n || !i {
				want, e = api.Ballot{}, api.ErrArg
				next(t, want, e, node, inc, bal(top, 1, 1))
				next(t, want, e, node, inc, bal(math.MaxUint64, 1, 1), bal(3, 3, 3))
			}
			next(t, want, e, node, inc)
			next(t, want, e, node, inc, api.Ballot{})
			next(t, want, e, node, inc, []api.Ballot{}...)
		}
	}
}

// P6.2: the round is one more than the greatest that was seen, wherever it stands; other numbers, and whether what was seen may be, play no part.
func TestNextOfRounds(t *testing.T) {
	next(t, bal(8, 4, 2), api.OK, 4, 2, bal(7, 1, 1))
	next(t, bal(8, 4, 2), api.OK, 4, 2, bal(7, 1, 1), bal(6, 9, 9), bal(7, 1, 1))
	next(t, bal(8, 4, 2), api.OK, 4, 2, bal(6, 15, top), bal(7, 1, 1), bal(5, 15, top))
	next(t, bal(8, 4, 2), api.OK, 4, 2, bal(6, 15, top), bal(5, 15, top), bal(7, 1, 1))
	next(t, bal(8, 4, 2), api.OK, 4, 2, bal(7, 4, 2))
	next(t, bal(8, 4, 2), api.OK, 4, 2, bal(7, 4, 9), bal(7, 9, 2))
	next(t, bal(8, 4, 2), api.OK, 4, 2, bal(7, 0, 0), bal(1, -1, 0))
	next(t, bal(8, 4, 2), api.OK, 4, 2, bal(7, math.MinInt, math.MaxUint64), bal(2, math.MaxInt, 0))
	next(t, bal(1, 4, 2), api.OK, 4, 2, bal(0, 15, top), bal(0, -3, 1))
	next(t, bal(1<<32+1, 4, 2), api.OK, 4, 2, bal(1<<32, 1, 1))
}

// P6.2: ErrFull, if the round would be above MaxCount; it is reckoned as it is, where a number would go round.
func TestNextIsFull(t *testing.T) {
	next(t, bal(top-1, 15, top), api.OK, 15, top, bal(top-2, 1, 1))
	next(t, bal(top, 15, top), api.OK, 15, top, bal(top-1, 1, 1))
	for _, round := range []uint64{top, top + 1, 1<<63 - 1, 1 << 63, math.MaxUint64 - 1, math.MaxUint64} {
		next(t, api.Ballot{}, api.ErrFull, 1, 1, bal(round, 1, 1))
		next(t, api.Ballot{}, api.ErrFull, 15, top, bal(round, -1, 0), bal(3, 15, 3))
		next(t, api.Ballot{}, api.ErrFull, 3, 2, bal(3, 15, 3), bal(round, 0, 0), bal(4, 1, 1))
	}
}

// P6.2: as the chapter's words say it, of rows of any ballots.
func TestNextOfRows(t *testing.T) {
	d := rand.New(rand.NewPCG(6, 2))
	l := few()
	for range 20000 {
		var seen []api.Ballot
		greatest := uint64(0)
		for range d.IntN(5) {
			b := l[d.IntN(len(l))]
			if d.IntN(2) == 0 {
				b.Round = d.Uint64N(20)
			}
			seen = append(seen, b)
			greatest = max(greatest, b.Round)
		}
		node, inc := 1+d.IntN(15), 1+d.Uint64N(top)
		if greatest >= top {
			next(t, api.Ballot{}, api.ErrFull, node, inc, seen...)
		} else {
			next(t, bal(greatest+1, node, inc), api.OK, node, inc, seen...)
		}
	}
}

// P6.3: a majority is more than half, and no fewer are.
func TestMajority(t *testing.T) {
	for n, want := range []int{0, 1, 2, 2, 3, 3, 4, 4} {
		if got := ballot.Majority(n); got != want {
			t.Errorf("Majority(%d): %d, not %d", n, got, want)
		}
	}
	for _, n := range []int{8, 15, 16, 255, 256, math.MaxInt32, 1 << 32, math.MaxInt - 1, math.MaxInt} {
		if m := ballot.Majority(n); m <= n-m || m-1 > n-(m-1) {
			t.Errorf("Majority(%d): %d", n, m)
		}
	}
	for _, n := range []int{-1, -2, -3, -4, -255, math.MinInt32, math.MinInt + 1, math.MinInt} {
		if m := ballot.Majority(n); m != 0 {
			t.Errorf("Majority(%d): %d", n, m)
		}
	}
}

// enough tells whether a majority of n is among those as the chapter's words say it.
func enough(n int, from []int) bool {
	there := 0
	for node := 1; node <= n; node++ {
		if slices.Contains(from, node) {
			there++
		}
	}
	return n >= 1 && 2*there > n
}

// rows goes over all rows of so many nodes, each of them from -1 to 7.
func rows(size int, f func(row []int)) {
	row := make([]int, size)
	for k := range int(math.Pow(9, float64(size))) {
		for i := range row {
			row[i] = k%9 - 1
			k /= 9
		}
		f(row)
	}
}

// P6.3: each node counts once, and those that are not from 1 to n count for nothing, in whatever order they come.
func TestQuorum(t *testing.T) {
	for size := range 6 {
		rows(size, func(row []int) {
			for n := -1; n <= 6; n++ {
				quorum(t, enough(n, row), n, row...)
			}
		})
	}
}

// P6.3: strange numbers, and many.
func TestStrangeQuorum(t *testing.T) {
	quorum(t, false, 1)
	quorum(t, false, 3, []int{}...)
	quorum(t, false, 3, 1, 4, 5, 0, -1, math.MinInt, math.MaxInt, 1<<32+2, -3)
	quorum(t, true, 3, 4, math.MaxInt, 3, 5, 3, 0, -1, math.MinInt, 1)
	for _, n := range []int{0, -1, -3, math.MinInt + 1, math.MinInt} {
		quorum(t, false, n)
		quorum(t, false, n, 1)
		quorum(t, false, n, 1, 2, 3)
		quorum(t, false, n, n, n+1, 0, -1, -2)
	}
	quorum(t, false, math.MaxInt)
	quorum(t, false, math.MaxInt, 1, 2, 3, math.MaxInt)
	quorum(t, true, 3, slices.Concat(make([]int, 100000), []int{2}, slices.Repeat([]int{1}, 100000))...)
	var half []int
	for i := range 5000 {
		half = append(half, 10000-2*i)
	}
	quorum(t, false, 10000, slices.Concat(half, half)...)
	quorum(t, true, 10000, slices.Concat(half, half, []int{9999})...)
	quorum(t, false, 9999, half...)
	quorum(t, true, 9999, slices.Concat(half, half, []int{1})...)
}

// P6.4: the promise whose accepted ballot is the highest, by all three numbers; all that it has is answered.
func TestHighest(t *testing.T) {
	a, b, c := promise(1, bal(2, 3, 1), "a"), promise(2, bal(2, 3, 2), "b"), promise(3, bal(2, 4, 1), "c")
	d := promise(2, bal(3, 1, 1), "d")
	highest(t, 0, a)
	highest(t, 1, a, b)
	highest(t, 0, b, a)
	highest(t, 1, b, c)
	highest(t, 0, c, b)
	highest(t, 1, c, d, a)
	highest(t, 2, a, c, d)
	highest(t, 0, d, c, b)
}

// P6.4: of those with one highest ballot the first is answered.
func TestHighestIsTheFirst(t *testing.T) {
	low, high := bal(1, 1, 1), bal(1, 2, 1)
	highest(t, 0, promise(1, high, "x"), promise(2, high, "yy"), promise(3, high, ""))
	highest(t, 0, promise(3, high, "xx"), promise(2, high, "y"), promise(1, high, ""))
	highest(t, 1, promise(1, low, "x"), promise(2, high, "y"), promise(3, high, "z"))
	highest(t, 0, promise(3, high, "x"), promise(2, low, "y"), promise(1, high, "z"))
	highest(t, 1, promise(3, api.Ballot{}, "x"), promise(2, low, "y"), promise(1, low, "z"))
}

// P6.4: promises that have accepted nothing are none, whatever else they have; what was promised plays no part.
func TestHighestOfNothing(t *testing.T) {
	highest(t, -1)
	highest(t, -1, []api.Promise{}...)
	highest(t, -1, api.Promise{})
	highest(t, -1, promise(1, api.Ballot{}, "x"), promise(2, api.Ballot{}, "y"))
	highest(t, 1, promise(1, api.Ballot{}, "x"), promise(2, bal(1, 1, 1), "y"))
	highest(t, 0, promise(2, bal(1, 1, 1), "y"), promise(1, api.Ballot{}, "x"))
	less, more := promise(1, bal(5, 1, 1), "x"), promise(2, bal(4, 1, 1), "y")
	less.Promised, more.Promised = bal(5, 1, 1), bal(9, 1, 1)
	highest(t, 0, less, more)
	highest(t, 1, more, less)
	highest(t, 0, api.Promise{Accepted: bal(1, 1, 1)}, api.Promise{From: 3, Promised: bal(9, 3, 1)})
}

// P6.4: what is not zero was accepted, also such as may not be, and such as stands ahead of the zero one.
func TestHighestOfStrange(t *testing.T) {
	for _, b := range few() {
		if b == (api.Ballot{}) {
			continue
		}
		highest(t, 0, promise(1, b, "x"))
		highest(t, 1, promise(1, api.Ballot{}, "x"), promise(2, b, "y"), promise(3, api.Ballot{}, "z"))
	}
	low, lower := promise(2, bal(0, -1, 9), "y"), promise(3, bal(0, math.MinInt, 0), "z")
	highest(t, 1, lower, low)
	highest(t, 0, low, lower, promise(1, api.Ballot{}, "x"))
	highest(t, 2, lower, low, promise(1, bal(0, 0, 1), "x"))
}

// P6.4: as the chapter's words say it, of rows of any promises.
func TestHighestOfRows(t *testing.T) {
	d := rand.New(rand.NewPCG(6, 4))
	l := few()
	for range 20000 {
		var row []api.Promise
		want := -1
		for i := range d.IntN(6) {
			b := l[d.IntN(len(l))]
			if d.IntN(2) == 0 {
				b = bal(d.Uint64N(2), d.IntN(3)-1, d.Uint64N(2))
			}
			row = append(row, promise(d.IntN(4), b, strings.Repeat("v", d.IntN(4))+strconv.Itoa(i)))
			if b != (api.Ballot{}) && (want < 0 || order(b, row[want].Accepted) > 0) {
				want = i
			}
		}
		highest(t, want, row...)
	}
}

// P6.5: a ballot's numbers are its Round, Node, and Inc; a Node below 0 is 0.
func TestPuts(t *testing.T) {
	for b := range grid() {
		if l := ballot.Puts(b); !slices.Equal(l, []uint64{b.Round, uint64(max(b.Node, 0)), b.Inc}) {
			t.Errorf("Puts(%s): %v", label(b), l)
		}
	}
	if l := ballot.Puts(bal(5, -1, 7)); !slices.Equal(l, []uint64{5, 0, 7}) {
		t.Errorf("Puts of a node below 0: %v", l)
	}
}

// of looks whether Of answers that; false: none.
func of(t *testing.T, want api.Ballot, ok bool, l ...uint64) {
	t.Helper()
	if b, got := ballot.Of(l...); b != want || got != ok {
		t.Errorf("Of(%v): %s, %v, not %s, %v", l, label(b), got, label(want), ok)
	}
}

// P6.5: three numbers are a ballot just if it may be, or is zero.
func TestOf(t *testing.T) {
	var numbers []uint64
	for n := range counts {
		numbers = append(numbers, n)
	}
	for node := range nodes {
		numbers = append(numbers, uint64(node))
	}
	for _, round := range numbers {
		for _, node := range numbers {
			for _, inc := range numbers {
				var want api.Ballot
				zero := round == 0 && node == 0 && inc == 0
				may := round >= 1 && round <= top && node >= 1 && node <= 15 && inc >= 1 && inc <= top
				if may {
					want = bal(round, int(node), inc)
				}
				of(t, want, may || zero, round, node, inc)
			}
		}
	}
}

// P6.5: fewer or more than three numbers are none.
func TestOfOtherRows(t *testing.T) {
	of(t, bal(1, 2, 3), true, 1, 2, 3)
	of(t, api.Ballot{}, false)
	of(t, api.Ballot{}, false, []uint64{}...)
	for size := range 12 {
		if size != 3 {
			of(t, api.Ballot{}, false, make([]uint64, size)...)
			of(t, api.Ballot{}, false, slices.Repeat([]uint64{1}, size)...)
		}
	}
}

// P6.6: rows that are handed in stay as they are, the room behind their ends too.
func TestRowsStay(t *testing.T) {
	from := []int{3, 9, 1, 3, -1, 2, 7, 8}
	quorum(t, true, 3, from[:6]...)
	quorum(t, false, 9, from[:5]...)
	if !slices.Equal(from, []int{3, 9, 1, 3, -1, 2, 7, 8}) {
		t.Errorf("Quorum makes %v of a row", from)
	}
	seen := []api.Ballot{bal(4, 1, 1), {}, bal(9, 2, 2), bal(2, 2, 2), bal(10, 1, 1)}
	kept := slices.Clone(seen)
	next(t, bal(10, 3, 7), api.OK, 3, 7, seen[:4]...)
	if !slices.Equal(seen, kept) {
		t.Errorf("Next makes %v of a row", seen)
	}
	l := []api.Promise{promise(1, api.Ballot{}, "x"), promise(2, bal(1, 1, 1), "y"), promise(3, bal(2, 1, 1), "z"), promise(1, api.Ballot{}, "v"), promise(3, bal(9, 1, 1), "w")}
	was := slices.Clone(l)
	highest(t, 2, l[:4]...)
	if !slices.EqualFunc(l, was, alike) {
		t.Errorf("Highest makes %v of a row", l)
	}
	numbers := []uint64{5, 6, 7, 8}
	of(t, bal(5, 6, 7), true, numbers[:3]...)
	of(t, api.Ballot{}, false, numbers[1:3]...)
	if !slices.Equal(numbers, []uint64{5, 6, 7, 8}) {
		t.Errorf("Of makes %v of a row", numbers)
	}
}

// P6.6: a value that is answered shares no memory with one that was handed in, nor with another answer.
func TestValuesAreNew(t *testing.T) {
	room := []byte("abcd")
	l := []api.Promise{promise(2, bal(1, 1, 1), "x"), {From: 3, Accepted: bal(2, 1, 1), Value: room[:2]}}
	p, _ := ballot.Highest(l...)
	q, _ := ballot.Highest(l...)
	p.Value[0] = 'z'
	p.Value = append(p.Value, 'z')
	p.Value = append(p.Value[:cap(p.Value)], 'z')
	if string(room) != "abcd" || string(l[1].Value) != "ab" || string(q.Value) != "ab" {
		t.Errorf("an answer that is changed makes %q, %q, %q", room, l[1].Value, q.Value)
	}
	room[1] = 'y'
	if string(q.Value) != "ab" {
		t.Errorf("what is handed in and changed makes %q of an answer", q.Value)
	}
	l[1].Value = room[:0]
	p, _ = ballot.Highest(l...)
	if p.Value = append(p.Value, 'z'); room[0] != 'a' {
		t.Errorf("an answer without bytes that is changed makes %q", room)
	}
}

// P6.6: numbers that are answered are new memory each time.
func TestNumbersAreNew(t *testing.T) {
	for _, b := range []api.Ballot{{}, bal(1, 2, 3)} {
		l := ballot.Puts(b)
		clear(l)
		l = append(l[:0], 8, 8, 8, 8)
		if m := ballot.Puts(b); !slices.Equal(m, []uint64{b.Round, uint64(b.Node), b.Inc}) {
			t.Errorf("Puts(%s) changed by %v: %v", label(b), l, m)
		}
	}
}

// P6.7: two unlike ballots stand one way, the other way round the other way, and what is ahead of what is ahead is ahead.
func TestOrder(t *testing.T) {
	l := few()
	for _, a := range l {
		for _, b := range l {
			if x, y := ballot.Cmp(a, b), ballot.Cmp(b, a); x != -y || (x == 0) != (a == b) || x < -1 || x > 1 {
				t.Fatalf("%s and %s: %d, %d", label(a), label(b), x, y)
			}
		}
	}
	d := rand.New(rand.NewPCG(6, 7))
	for range 200000 {
		a, b, c := l[d.IntN(len(l))], l[d.IntN(len(l))], l[d.IntN(len(l))]
		if ballot.Cmp(a, b) < 0 && ballot.Cmp(b, c) < 0 && ballot.Cmp(a, c) >= 0 {
			t.Fatalf("%s, %s, %s", label(a), label(b), label(c))
		}
	}
}

// P6.7: Next is behind all that was seen, and may be.
func TestNextIsBehind(t *testing.T) {
	d := rand.New(rand.NewPCG(6, 8))
	l := few()
	for range 20000 {
		seen := []api.Ballot{l[d.IntN(len(l))], l[d.IntN(len(l))], bal(d.Uint64N(9), 1+d.IntN(15), d.Uint64())}
		b, e := ballot.Next(1+d.IntN(15), 1+d.Uint64N(top), seen...)
		if e == api.ErrFull {
			continue
		}
		if e != api.OK || !ballot.May(b) {
			t.Fatalf("%v: %s, %d", seen, label(b), e)
		}
		for _, s := range seen {
			if ballot.Cmp(s, b) != -1 {
				t.Fatalf("%s saw %s", label(b), label(s))
			}
		}
	}
}

// P6.7: lives of unlike nodes, or of unlike numbers, have no ballot in common, whatever they saw.
func TestLivesHaveTheirOwn(t *testing.T) {
	type life struct {
		node int
		inc  uint64
	}
	whose := map[api.Ballot]life{}
	for node := 1; node <= 15; node++ {
		for _, inc := range []uint64{1, 2, 3, 15, 16, 1 << 32, top - 1, top} {
			for _, round := range []uint64{0, 1, 2, 3, 15, 1 << 32, top - 1} {
				b, e := ballot.Next(node, inc, bal(round, 1, 1))
				if old, ok := whose[b]; e != api.OK || ok {
					t.Fatalf("%d.%d, %d.%d: %s, %d", old.node, old.inc, node, inc, label(b), e)
				}
				whose[b] = life{node, inc}
			}
		}
	}
}

// members tells which nodes stand in a set: node i is there, if its bit i - 1 is.
func members(set int) []int {
	var l []int
	for node := 1; set != 0; node++ {
		if set&1 != 0 {
			l = append(l, node)
		}
		set >>= 1
	}
	return l
}

// P6.8: two majorities of n have a node in common; and there are majorities: all nodes are one.
func TestMajoritiesMeet(t *testing.T) {
	for n := 1; n <= 9; n++ {
		var quorums []int
		for set := range 1 << n {
			if ballot.Quorum(n, members(set)...) {
				quorums = append(quorums, set)
			}
			if got := len(members(set)) >= ballot.Majority(n); got != ballot.Quorum(n, members(set)...) {
				t.Errorf("%v of %d: %v", members(set), n, got)
			}
		}
		if !slices.Contains(quorums, 1<<n-1) {
			t.Errorf("all of %d are none", n)
		}
		for _, a := range quorums {
			for _, b := range quorums {
				if a&b == 0 {
					t.Fatalf("%v and %v of %d", members(a), members(b), n)
				}
			}
		}
	}
}

// P6.9: Of of Puts is the ballot, if it may be, or is zero; else there is none.
func TestThereAndBack(t *testing.T) {
	for b, may := range grid() {
		switch {
		case may || b == (api.Ballot{}):
			of(t, b, true, ballot.Puts(b)...)
		case b.Round == 0 && b.Node < 0 && b.Inc == 0: // its numbers are those of the zero one
			of(t, api.Ballot{}, true, ballot.Puts(b)...)
		default:
			of(t, api.Ballot{}, false, ballot.Puts(b)...)
		}
	}
}

// P6.10: a life's ballots rise, each above all that it saw, its own among these.
func TestALifeRises(t *testing.T) {
	d := rand.New(rand.NewPCG(6, 10))
	for range 100 {
		node, inc := 1+d.IntN(15), 1+d.Uint64N(top)
		var seen []api.Ballot
		last := api.Ballot{}
		for range 60 {
			for range d.IntN(3) {
				seen = append(seen, bal(last.Round+d.Uint64N(4), 1+d.IntN(15), 1+d.Uint64N(top)))
			}
			b, e := ballot.Next(node, inc, seen...)
			if e != api.OK || b.Node != node || b.Inc != inc || ballot.Cmp(last, b) != -1 {
				t.Fatalf("%d.%d: %s behind %s, %d", node, inc, label(b), label(last), e)
			}
			for _, s := range seen {
				if ballot.Cmp(s, b) != -1 {
					t.Fatalf("%s saw %s", label(b), label(s))
				}
			}
			last, seen = b, append(seen, b)
		}
	}
}

// P6.10: it rises up to the last round, behind which there is none.
func TestALifeEnds(t *testing.T) {
	b, e := ballot.Next(2, 3, bal(top-4, 15, top))
	for round := uint64(top - 3); round <= top; round++ {
		if e != api.OK || b != bal(round, 2, 3) {
			t.Errorf("%s, %d, not the round %d", label(b), e, round)
		}
		b, e = ballot.Next(2, 3, b)
	}
	if e != api.ErrFull || b != (api.Ballot{}) {
		t.Errorf("behind the last round: %s, %d", label(b), e)
	}
}
