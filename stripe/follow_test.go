package stripe_test

import (
	"math/rand/v2"
	"slices"
	"testing"

	"scrivener/api"
	"scrivener/plan"
	"scrivener/stripe"
)

// held is a row that is handed in, with room behind its end.
type held[T any] struct{ row, room, was []T }

// hold tells a row of those, with others in the room behind its end.
func hold[T comparable](l []T, behind ...T) held[T] {
	room := slices.Concat(l, behind)
	return held[T]{room[:len(l)], room, slices.Clone(room)}
}

// stays looks whether nothing of the row was changed, the room behind it neither.
func stays[T comparable](t *testing.T, name string, l ...held[T]) {
	t.Helper()
	for i, h := range l {
		if !slices.Equal(h.room, h.was) {
			t.Errorf("%s: the row %d is made %v, it was %v", name, i, h.room, h.was)
		}
	}
}

// spoil changes a row that was answered, and the room behind it.
func spoil(l []api.Place) {
	for i := range l {
		l[i] = at(99, 99)
	}
	l = append(l, at(98, 98))
	clear(l[:cap(l)])
}

// shares looks whether what is answered, twice, has memory of its own: what is answered first is changed, and then what was handed in.
func shares(t *testing.T, name string, answers func() []api.Place, in ...held[api.Place]) {
	t.Helper()
	a, b := answers(), answers()
	want := slices.Clone(b)
	stays(t, name, in...)
	spoil(a)
	stays(t, name+", changed", in...)
	for _, h := range in {
		clear(h.room)
	}
	if !slices.Equal(b, want) || len(want) == 0 {
		t.Errorf("%s: what is changed makes %v of what was answered, %v", name, b, want)
	}
}

// P14.6: fragments and write sets that are answered are new memory.
func TestSetsAreNew(t *testing.T) {
	fragOf := func(n uint64, h ...held[api.Place]) func() []api.Place {
		return func() []api.Place {
			f, _ := stripe.Frag([]api.Frag{frag(1, h[0].row...), frag(5, h[1].row...)}, n)
			return f.Bookies
		}
	}
	setOf := func(n uint64, w int, h ...held[api.Place]) func() []api.Place {
		return func() []api.Place {
			return stripe.Set([]api.Frag{frag(1, h[0].row...), frag(5, h[1].row...)}, w, n)
		}
	}
	for n := uint64(1); n < 9; n++ {
		for w := 1; w < 4; w++ {
			a, b := hold(firsts(1, 2, 3), firsts(4, 5)...), hold(firsts(6, 7, 8), firsts(9)...)
			shares(t, "Set", setOf(n, w, a, b), a, b)
		}
		a, b := hold(firsts(1, 2, 3), firsts(4, 5)...), hold(firsts(6, 7, 8), firsts(9)...)
		shares(t, "Frag", fragOf(n, a, b), a, b)
	}
}

// P14.6: the row of fragments stays, the room behind it too.
func TestFragmentsStay(t *testing.T) {
	l := []api.Frag{frag(4, firsts(1)...), frag(1, firsts(2, 3)...), frag(9, firsts(3)...), frag(2, firsts(4)...), frag(7)}
	was := slices.Clone(l)
	for n := range uint64(12) {
		f, _ := stripe.Frag(l[:3], n)
		f.First = 77
		stripe.Set(l[:3], 1, n)
		stripe.Set(l[:3], 2, n)
		stripe.Set(l[:3], 9, n)
	}
	if !slices.EqualFunc(l, was, alike) {
		t.Errorf("%v, it was %v", l, was)
	}
}

// P14.6: sets, and those who answered, stay, the rooms behind them too.
func TestAnswersStay(t *testing.T) {
	set, from := hold(firsts(3, 1, 2, 1), firsts(8, 9)...), hold(firsts(2, 9, 1, 1, 2), firsts(3, 3)...)
	for a := -1; a < 6; a++ {
		stripe.Acked(set.row, a, from.row...)
		for w := -1; w < 6; w++ {
			stripe.Missing(set.row, w, a, from.row...)
			stripe.Covered(frag(1, set.row...), w, a, from.row...)
		}
	}
	stays(t, "answers", set, from)
}

// P14.6: what Pick is handed stays, and what it answers is new memory.
func TestPickedIsNew(t *testing.T) {
	for e := 1; e < 6; e++ {
		known, not := hold(firsts(1, 2, 2, 3, 4, 5), firsts(6, 7)...), hold([]int{3, 9, 3}, 1, 2)
		shares(t, "Pick", func() []api.Place {
			l, _ := stripe.Pick(known.row, e, 1, not.row...)
			return l
		}, known)
		stays(t, "not", not)
		all := hold(firsts(1, 2, 3, 4, 5), firsts(6, 7)...)
		shares(t, "Pick of all", func() []api.Place {
			l, _ := stripe.Pick(all.row, e, e)
			return l
		}, all)
	}
}

// P14.6: what Pick is handed stays beside an error, too.
func TestPickedInVain(t *testing.T) {
	known, not := hold(firsts(1, 2, 2, 3, 4, 5), firsts(6, 7)...), hold([]int{3, 9, 3}, 1, 2)
	for e := range 7 {
		stripe.Pick(known.row, e, e+1, not.row...)
		stripe.Pick(known.row, e, 5, not.row...)
	}
	stays(t, "known", known)
	stays(t, "not", not)
}

// P14.6: what Swap is handed stays, and what it answers is new memory; beside a false, too.
func TestSwappedIsNew(t *testing.T) {
	for _, old := range firsts(1, 2, 3, 9) {
		for _, fresh := range append(firsts(1, 2, 3, 4), at(1, 2), at(3, 2)) {
			row := hold(firsts(1, 2, 3), firsts(7, 8)...)
			if _, ok := stripe.Swap(frag(1, row.row...), old, fresh); !ok {
				stays(t, "Swap, false", row)
				continue
			}
			shares(t, "Swap", func() []api.Place {
				f, _ := stripe.Swap(frag(1, row.row...), old, fresh)
				return f.Bookies
			}, row)
		}
	}
}

// P14.6: what Renew is handed stays, and what it answers is new memory; beside a false, too.
func TestRenewedIsNew(t *testing.T) {
	for bad := range rows(3, firsts(1, 2, 3, 9)) {
		for _, others := range [][]api.Place{nil, firsts(2), firsts(5, 6, 9), append(firsts(1, 2, 3), at(2, 2), at(4, 1))} {
			for w := range 4 {
				row, b, known := hold(firsts(1, 2, 3), firsts(7, 8)...), hold(bad, firsts(1, 2)...), hold(others, firsts(3, 4)...)
				answers := func() []api.Place {
					f, _ := stripe.Renew(frag(1, row.row...), w, 4, b.row, known.row)
					return f.Bookies
				}
				if len(answers()) == 0 {
					stays(t, "Renew, false", row, b, known)
					continue
				}
				shares(t, "Renew", answers, row, b, known)
			}
		}
	}
}

// subsets tells all parts of a row, in its order.
func subsets(l []api.Place) [][]api.Place {
	all := [][]api.Place{nil}
	for _, p := range l {
		for _, part := range all[:len(all):len(all)] {
			all = append(all, append(slices.Clone(part), p))
		}
	}
	return all
}

// writeSets tells the write sets of as many entries as a fragment has places, from one on.
func writeSets(f api.Frag, w int, n uint64) [][]api.Place {
	var all [][]api.Place
	for i := range f.Bookies {
		all = append(all, stripe.Set([]api.Frag{f}, w, n+uint64(i)))
	}
	return all
}

// meets tells whether each a of each set have one of from among them.
func meets(sets [][]api.Place, a int, from []api.Place) bool {
	for _, set := range sets {
		for _, part := range subsets(set) {
			one := func(p api.Place) bool { return slices.Contains(from, p) }
			if len(part) == a && !slices.ContainsFunc(part, one) {
				return false
			}
		}
	}
	return true
}

// P14.7: of whatever covers a fragment, one is among any A of any write set; and of what covers it not there are A that have none of it.
func TestTheyMeet(t *testing.T) {
	of := []api.Place{at(7, 1), at(3, 4), at(15, 2), at(1, 1), at(8, 9)}
	times := map[bool]int{}
	for e := 1; e <= 5; e++ {
		f := frag(3, of[:e]...)
		for w := 1; w <= e; w++ {
			sets := writeSets(f, w, 100)
			for a := 1; a <= w; a++ {
				for _, from := range subsets(append(slices.Clone(of[:e]), at(7, 2), at(2, 1))) {
					covers := stripe.Covered(f, w, a, from...)
					if covers != meets(sets, a, from) {
						t.Fatalf("%v, %d, %d, %v: %v", f, w, a, from, covers)
					}
					times[covers]++
				}
			}
		}
	}
	if min(times[true], times[false]) < 300 {
		t.Errorf("%v", times)
	}
}

// P14.8: a write set has W unlike places of the fragment; of E sets that follow one another each place is in W.
func TestRound(t *testing.T) {
	d := rand.New(rand.NewPCG(14, 8))
	for range 2000 {
		f := mayBe(d, 1, 5)
		for w := 1; w <= len(f.Bookies); w++ {
			times := map[api.Place]int{}
			for _, set := range writeSets(f, w, 1+d.Uint64N(1<<60)) {
				if len(set) != w {
					t.Fatalf("%v, %d: %v", f, w, set)
				}
				for i, p := range set {
					if slices.Contains(set[:i], p) || !slices.Contains(f.Bookies, p) {
						t.Fatalf("%v, %d: %v", f, w, set)
					}
					times[p]++
				}
			}
			for _, p := range f.Bookies {
				if times[p] != w {
					t.Fatalf("%v, %d: %v", f, w, times)
				}
			}
		}
	}
}

// P14.8: the next entry's write set is one place on: it leaves out the first one, and has one more.
func TestNextEntryIsOnePlaceOn(t *testing.T) {
	f := frag(2, firsts(4, 2, 9, 7, 1)...)
	for n := uint64(2); n < 40; n++ {
		here, next := stripe.Set([]api.Frag{f}, 3, n), stripe.Set([]api.Frag{f}, 3, n+1)
		if !slices.Equal(here[1:], next[:2]) || slices.Contains(here, next[2]) {
			t.Errorf("%d: %v, then %v", n, here, next)
		}
	}
}

// isBad tells whether a place is among bad ones.
func isBad(bad []api.Place) func(api.Place) bool {
	return func(p api.Place) bool { return slices.Contains(bad, p) }
}

// P14.9: with W known ones that are not bad, on unlike nodes, nothing that was renewed is bad; what comes of a fragment that may be may be.
func TestRenewed(t *testing.T) {
	d := rand.New(rand.NewPCG(14, 9))
	times, enough := 0, 0
	for range 200000 {
		w := 1 + d.IntN(5)
		f := mayBe(d, w, 5)
		bad, known := append(anyRow(d, 5, f.Bookies), anyRow(d, 4, places(8))...), anyRow(d, 7, places(8))
		g, ok := stripe.Renew(f, w, d.IntN(7), bad, known)
		if !ok {
			continue
		}
		times++
		if !plan.MayFrags(w, g) {
			t.Fatalf("%v, %d, %v, %v: %v may not be", f, w, bad, known, g)
		}
		good := nodes(slices.DeleteFunc(slices.Clone(known), isBad(bad)))
		slices.Sort(good)
		if len(slices.Compact(good)) < w {
			continue
		}
		if enough++; slices.ContainsFunc(g.Bookies, isBad(bad)) {
			t.Fatalf("%v, %d, %v, %v: %v", f, w, bad, known, g)
		}
	}
	if times < 50000 || enough < 20000 {
		t.Errorf("%d, %d", times, enough)
	}
}

// P14.9: with so many known ones, a fragment stays just if none of it is bad.
func TestRenewedIfBad(t *testing.T) {
	d := rand.New(rand.NewPCG(14, 10))
	for range 20000 {
		w := 1 + d.IntN(4)
		f := mayBe(d, w, 5)
		known := mayBe(d, w, 5).Bookies
		bad := slices.DeleteFunc(anyRow(d, 3, f.Bookies), isBad(known))
		if _, ok := stripe.Renew(f, w, 5, bad, known); ok != (len(bad) > 0) {
			t.Fatalf("%v, %d, %v, %v: %v", f, w, bad, known, ok)
		}
	}
}

// P14.10: what is enough is enough with more answers, in any order.
func TestMoreIsEnough(t *testing.T) {
	d := rand.New(rand.NewPCG(14, 11))
	times := map[string]int{}
	for range 100000 {
		set := anyRow(d, 5, places(3))
		w, a := d.IntN(8)-1, d.IntN(7)-1
		from := anyRow(d, 6, places(3))
		more := slices.Concat(from, anyRow(d, 4, places(4)))
		d.Shuffle(len(more), func(i, j int) { more[i], more[j] = more[j], more[i] })
		for name, enough := range map[string]func(from []api.Place) bool{
			"Acked":   func(from []api.Place) bool { return stripe.Acked(set, a, from...) },
			"Missing": func(from []api.Place) bool { return stripe.Missing(set, w, a, from...) },
			"Covered": func(from []api.Place) bool { return stripe.Covered(frag(1, set...), w, a, from...) },
		} {
			if !enough(from) {
				continue
			}
			times[name]++
			if !enough(more) {
				t.Fatalf("%s of %v, %d, %d: %v, not %v", name, set, w, a, from, more)
			}
		}
	}
	if min(times["Acked"], times["Missing"], times["Covered"]) < 5000 {
		t.Errorf("%v", times)
	}
}

// P14.10: all places of a fragment cover it, and all of a write set are enough of it.
func TestAllCover(t *testing.T) {
	d := rand.New(rand.NewPCG(14, 12))
	for range 2000 {
		f := mayBe(d, 1, 5)
		for w := 1; w <= len(f.Bookies); w++ {
			for a := 1; a <= w; a++ {
				isCovered(t, true, f, w, a, f.Bookies...)
				for _, set := range writeSets(f, w, 1+d.Uint64N(1<<60)) {
					isAcked(t, true, set, a, set...)
					isMissing(t, true, set, w, a, set...)
				}
			}
		}
	}
}
