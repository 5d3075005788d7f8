package stripe_test

import (
	"math"
	"math/rand/v2"
	"slices"
	"testing"

	"scrivener/api"
	"scrivener/stripe"
)

// P14.3: how many places are asked for; what may not be asked goes ahead of how many there are.
func TestPickArgs(t *testing.T) {
	known := firsts(1, 2, 3, 4, 5, 6, 7)
	for _, e := range extremes {
		for _, w := range extremes {
			if w >= 1 && e >= w && e <= 5 {
				isPicked(t, known[:e], api.OK, known, e, w)
				isPicked(t, nil, api.ErrFull, known[:w-1], e, w)
				isPicked(t, known[:w], api.OK, known[:w], e, w)
				isPicked(t, nil, api.ErrFull, nil, e, w)
			} else {
				isPicked(t, nil, api.ErrArg, known, e, w)
				isPicked(t, nil, api.ErrArg, nil, e, w)
			}
		}
	}
}

// P14.3: the first ones, each of a node of its own, none of a node that is not to be.
func TestPick(t *testing.T) {
	known := []api.Place{at(7, 2), at(7, 3), at(8, 1), at(7, 1), at(8, 1), at(9, 4), at(3, 1), at(9, 1)}
	isPicked(t, []api.Place{at(7, 2), at(8, 1)}, api.OK, known, 2, 1)
	isPicked(t, []api.Place{at(7, 2), at(8, 1), at(9, 4), at(3, 1)}, api.OK, known, 5, 4)
	isPicked(t, nil, api.ErrFull, known, 5, 5)
	isPicked(t, []api.Place{at(8, 1), at(9, 4), at(3, 1)}, api.OK, known, 4, 2, 7)
	isPicked(t, []api.Place{at(7, 2), at(9, 4)}, api.OK, known, 2, 2, 8, 8)
	isPicked(t, []api.Place{at(3, 1)}, api.OK, known, 1, 1, 9, 8, 1, 7)
	isPicked(t, nil, api.ErrFull, known, 1, 1, 9, 8, 3, 7)
	isPicked(t, nil, api.ErrFull, known, 3, 2, 9, 8, 7)
	isPicked(t, []api.Place{at(7, 2), at(8, 1), at(9, 4)}, api.OK, known, 3, 3, 0, -7, 70, 1<<32+7)
	odd := []api.Place{{}, at(-1, 0), at(math.MinInt, 1), at(0, 5), at(16, math.MaxUint64)}
	isPicked(t, []api.Place{{}, at(-1, 0), at(math.MinInt, 1), at(16, math.MaxUint64)}, api.OK, odd, 5, 1)
	isPicked(t, []api.Place{at(math.MinInt, 1), at(16, math.MaxUint64)}, api.OK, odd, 5, 1, 0, -1)
}

// P14.3: any rows.
func TestPickOfAny(t *testing.T) {
	d := rand.New(rand.NewPCG(14, 3))
	full := 0
	for range 100000 {
		known := anyRow(d, 9, places(6))
		not := anyRow(d, 3, []int{0, 1, 2, 3, 4, 5, 6, 7})
		e, w := 1+d.IntN(5), 1+d.IntN(4)
		want, code := pick(known, e, w, not)
		isPicked(t, want, code, known, e, w, not...)
		if code == api.ErrFull {
			full++
		}
	}
	if full < 1000 || full > 60000 {
		t.Errorf("%d times too few", full)
	}
}

// P14.3: many known ones, and many that are not to be.
func TestPickOfMany(t *testing.T) {
	var known []api.Place
	var not []int
	for i := range 60000 {
		known = append(known, at(i, 1), at(i, 2))
		not = append(not, i+3)
	}
	isPicked(t, firsts(0, 1, 2), api.OK, known, 5, 3, not...)
	isPicked(t, nil, api.ErrFull, known, 5, 4, not...)
	slices.Reverse(known)
	isPicked(t, []api.Place{at(2, 2), at(1, 2), at(0, 2)}, api.OK, known, 3, 1, not...)
}

// P14.4: another place instead of an old one.
func TestSwap(t *testing.T) {
	f := frag(4, at(7, 1), at(8, 2), at(9, 1))
	none := api.Frag{}
	isSwapped(t, frag(4, at(6, 5), at(8, 2), at(9, 1)), true, f, at(7, 1), at(6, 5))
	isSwapped(t, frag(4, at(7, 1), at(6, 1), at(9, 1)), true, f, at(8, 2), at(6, 1))
	isSwapped(t, frag(4, at(7, 1), at(8, 2), at(6, 1)), true, f, at(9, 1), at(6, 1))
	isSwapped(t, frag(4, at(7, 1), at(8, 3), at(9, 1)), true, f, at(8, 2), at(8, 3))
	isSwapped(t, f, true, f, at(8, 2), at(8, 2))
	isSwapped(t, none, false, f, at(8, 1), at(6, 1))
	isSwapped(t, none, false, f, at(6, 1), at(5, 1))
	isSwapped(t, none, false, f, at(6, 1), at(8, 2))
	isSwapped(t, none, false, f, at(7, 1), at(8, 2))
	isSwapped(t, none, false, f, at(7, 1), at(8, 7))
	isSwapped(t, none, false, f, at(9, 1), at(7, 2))
	isSwapped(t, none, false, f, at(8, 2), at(9, 1))
	isSwapped(t, none, false, none, api.Place{}, api.Place{})
	isSwapped(t, none, false, frag(4), at(7, 1), at(6, 1))
	isSwapped(t, frag(0, at(-1, 0)), true, frag(0, api.Place{}), api.Place{}, at(-1, 0))
	isSwapped(t, frag(math.MaxUint64, api.Place{}), true, frag(math.MaxUint64, at(7, 1)), at(7, 1), api.Place{})
}

// P14.4: of one that stands twice the first goes; the second is another one of the fragment.
func TestSwapOfTwice(t *testing.T) {
	f := frag(1, at(8, 1), at(7, 1), at(7, 1), at(7, 2))
	isSwapped(t, frag(1, at(8, 1), at(6, 1), at(7, 1), at(7, 2)), true, f, at(7, 1), at(6, 1))
	isSwapped(t, frag(1, at(8, 1), at(7, 1), at(7, 1), at(6, 1)), true, f, at(7, 2), at(6, 1))
	isSwapped(t, api.Frag{}, false, f, at(7, 1), at(7, 3))
	isSwapped(t, api.Frag{}, false, f, at(7, 1), at(7, 1))
	isSwapped(t, api.Frag{}, false, f, at(7, 2), at(7, 3))
	isSwapped(t, frag(1, at(8, 2), at(7, 1), at(7, 1), at(7, 2)), true, f, at(8, 1), at(8, 2))
}

// P14.4: all short rows of few places.
func TestSwapOfFew(t *testing.T) {
	of := append(places(2), at(3, 1))
	for row := range rows(4, of) {
		for _, old := range of {
			for _, fresh := range of {
				f := frag(uint64(len(row)), row...)
				want, ok := swap(f, old, fresh)
				isSwapped(t, want, ok, f, old, fresh)
			}
		}
	}
}

// P14.5: what is replaced, by what.
func TestRenewReplaces(t *testing.T) {
	f := frag(4, firsts(7, 8, 9)...)
	for name, c := range map[string]struct {
		want, bad, known []api.Place
	}{
		"nothing is bad":                      {nil, nil, firsts(1, 2)},
		"others are bad":                      {nil, append(firsts(1, 6), at(8, 2)), firsts(2, 3)},
		"one, by the first":                   {firsts(7, 3, 9), firsts(8), firsts(3, 1, 2)},
		"one, by the first that is not bad":   {firsts(7, 1, 9), firsts(8, 3), firsts(3, 1, 2)},
		"one, by the first that is of none":   {firsts(7, 2, 9), firsts(8), append(firsts(7, 9), at(9, 3), at(7, 5), at(2, 1), at(1, 1))},
		"one, by its own node":                {[]api.Place{at(7, 1), at(8, 2), at(9, 1)}, firsts(8), []api.Place{at(8, 1), at(8, 2), at(1, 1)}},
		"one, by its own node ahead of it":    {[]api.Place{at(7, 1), at(8, 0), at(9, 1)}, firsts(8), []api.Place{at(8, 0), at(1, 1)}},
		"two, in order":                       {firsts(3, 8, 1), firsts(9, 7), firsts(3, 1, 2)},
		"two, one of each node":               {[]api.Place{at(3, 2), at(8, 1), at(1, 1)}, firsts(7, 9), []api.Place{at(3, 2), at(3, 1), at(1, 1)}},
		"two, by a node that is free by then": {[]api.Place{at(1, 1), at(7, 2), at(9, 1)}, firsts(7, 8), []api.Place{at(8, 1), at(1, 1), at(7, 2)}},
		"all":                                 {firsts(1, 2, 3), firsts(9, 8, 7, 6), firsts(6, 1, 2, 3, 4)},
		"nothing is known":                    {nil, firsts(8), nil},
		"none is of use":                      {nil, firsts(8), append(firsts(8, 7, 9), at(7, 2))},
	} {
		for _, e := range []int{math.MinInt, -1, 0, 1, 2, 3} {
			want := frag(4, c.want...)
			if c.want == nil {
				want = api.Frag{}
			}
			if got, ok := stripe.Renew(f, 3, e, c.bad, c.known); !alike(got, want) || ok != (c.want != nil) {
				t.Errorf("%s: %v, %v, not %v", name, got, ok, want)
			}
		}
	}
}

// P14.5: what is left out, as long as more than w are left.
func TestRenewLeavesOut(t *testing.T) {
	f := frag(2, firsts(5, 6, 7, 8, 9)...)
	bad := firsts(9, 6, 7)
	for _, w := range extremes {
		var want []api.Place
		switch {
		case w <= 2:
			want = firsts(5, 8)
		case w == 3:
			want = firsts(5, 8, 9)
		case w == 4:
			want = firsts(5, 7, 8, 9)
		}
		for _, e := range []int{math.MinInt, 0, 1, 2, 5, math.MaxInt} {
			if w > 4 {
				isRenewed(t, api.Frag{}, false, f, w, e, bad, nil)
			} else {
				isRenewed(t, frag(2, want...), true, f, w, e, bad, nil)
			}
		}
		if w <= 0 {
			isRenewed(t, frag(2), true, f, w, 5, f.Bookies, nil)
		}
		isRenewed(t, api.Frag{}, false, f, w, 5, nil, nil)
		isRenewed(t, api.Frag{}, false, f, w, 5, nil, firsts(1, 2))
		isRenewed(t, api.Frag{}, false, api.Frag{}, w, 5, firsts(7), firsts(1, 2))
		isRenewed(t, api.Frag{}, false, frag(3), w, 5, []api.Place{{}}, firsts(1, 2))
	}
}

// P14.5: what was replaced is not left out, what was not is: as far as w; then others come behind, up to e, and to five.
func TestRenewPutsBehind(t *testing.T) {
	f := frag(2, firsts(7, 8, 9)...)
	known := append(firsts(7, 8), at(8, 2), at(3, 1), at(3, 2), at(4, 1), at(9, 1), at(5, 1))
	for e, want := range map[int][]int{
		math.MinInt: {3, 8, 9}, 0: {3, 8, 9}, 3: {3, 8, 9}, 4: {3, 8, 9, 4}, 5: {3, 8, 9, 4, 5}, 6: {3, 8, 9, 4, 5}, math.MaxInt: {3, 8, 9, 4, 5},
	} {
		isRenewed(t, frag(2, firsts(want...)...), true, f, 3, e, firsts(7), known)
	}
	isRenewed(t, frag(2, at(8, 2), at(9, 1)), true, f, 2, 3, firsts(7, 8), []api.Place{at(8, 2), at(9, 3)})
	isRenewed(t, frag(2, at(8, 1)), true, frag(2, firsts(7, 8)...), 1, 3, firsts(7), []api.Place{at(8, 1), at(8, 9), at(7, 1)})
}

// P14.5: places that stand twice in the fragment, in bad, in known.
func TestRenewOfTwice(t *testing.T) {
	f := frag(1, firsts(7, 8, 7)...)
	isRenewed(t, frag(1, firsts(5, 8, 6)...), true, f, 3, 3, firsts(7, 7), firsts(5, 5, 6, 6))
	isRenewed(t, frag(1, firsts(5, 8)...), true, f, 2, 3, firsts(7), firsts(5, 5))
	isRenewed(t, frag(1, firsts(5, 8, 7)...), true, f, 3, 3, firsts(7), firsts(5, 5))
	isRenewed(t, frag(1, firsts(8, 7)...), true, f, 2, 2, firsts(7), []api.Place{at(7, 2)})
	isRenewed(t, frag(1, at(8, 1), at(7, 2)), true, f, 1, 2, firsts(7), []api.Place{at(7, 2)})
	isRenewed(t, frag(2, at(6, 1)), true, frag(2, firsts(9, 9)...), 1, 3, firsts(9), firsts(6))
}

// P14.5: any fragments, bad ones, known ones.
func TestRenewOfAny(t *testing.T) {
	d := rand.New(rand.NewPCG(14, 5))
	var sum done
	stays := 0
	for i := range 200000 {
		f := frag(d.Uint64N(10), anyRow(d, 6, places(4))...)
		if i%2 == 0 {
			f = mayBe(d, 0, 6)
		}
		bad, known := anyRow(d, 5, places(8)), anyRow(d, 7, places(8))
		if d.IntN(2) == 0 && len(f.Bookies) > 0 {
			bad = append(bad, anyRow(d, 4, f.Bookies)...)
		}
		w, e := d.IntN(9)-1, d.IntN(9)-1
		want, did := renew(f, w, e, bad, known)
		isRenewed(t, want, did.replaced+did.out > 0, f, w, e, bad, known)
		sum = done{sum.replaced + did.replaced, sum.out + did.out, sum.behind + did.behind}
		if did.replaced+did.out == 0 {
			stays++
		}
	}
	if min(sum.replaced, sum.out, sum.behind, stays) < 10000 {
		t.Errorf("%v, and %d stay", sum, stays)
	}
}

// P14.5: many known ones, and many that are bad.
func TestRenewOfMany(t *testing.T) {
	var known []api.Place
	for i := range 60000 {
		known = append(known, at(10+i, 1), at(10+i, 2))
	}
	f := frag(3, firsts(7, 8, 9)...)
	bad := append(firsts(8), known[:len(known)-3]...)
	isRenewed(t, frag(3, at(7, 1), at(60008, 2), at(9, 1), at(60009, 1)), true, f, 3, 5, bad, known)
	isRenewed(t, api.Frag{}, false, f, 3, 5, append(bad, known...), known)
	isRenewed(t, frag(3, firsts(7, 9)...), true, f, 2, 5, append(bad, known...), known)
	isRenewed(t, frag(3, at(7, 1), at(10, 1), at(9, 1), at(11, 1), at(12, 1)), true, f, 3, 5, bad[:1], known)
}
