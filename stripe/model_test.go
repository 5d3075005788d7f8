package stripe_test

import (
	"iter"
	"math"
	"math/big"
	"math/rand/v2"
	"slices"
	"testing"

	"scrivener/api"
	"scrivener/stripe"
)

// at tells the place of a node with a disk of that serial.
func at(node int, serial uint64) api.Place { return api.Place{Node: node, Serial: serial} }

// firsts tells the places of those nodes, each with its first disk.
func firsts(nodes ...int) []api.Place {
	var l []api.Place
	for _, n := range nodes {
		l = append(l, at(n, 1))
	}
	return l
}

// frag tells a fragment.
func frag(first uint64, bookies ...api.Place) api.Frag {
	return api.Frag{First: first, Bookies: bookies}
}

// alike tells whether two fragments are the same, no places and none being one.
func alike(a, b api.Frag) bool { return a.First == b.First && slices.Equal(a.Bookies, b.Bookies) }

// extremes are numbers about the edges of an int, and about those of how many places there are.
var extremes = []int{math.MinInt, math.MinInt + 1, -3, -1, 0, 1, 2, 3, 4, 5, 6, 1<<32 + 2, math.MaxInt - 1, math.MaxInt}

// The model: stripes as the chapter's words say it, not by way of the package.

// fragOf tells the number in the row of the fragment of an entry; -1: there is none.
func fragOf(l []api.Frag, n uint64) int {
	last := -1
	for i, f := range l {
		if f.First <= n {
			last = i
		}
	}
	return last
}

// turned tells a row from one number on, and behind it what stands ahead of that.
func turned(row []api.Place, from int) []api.Place {
	return slices.Concat(row[from:], row[:from])
}

// setOf tells the write set of an entry.
func setOf(l []api.Frag, w int, n uint64) []api.Place {
	i := fragOf(l, n)
	if i < 0 || w < 1 || w > len(l[i].Bookies) {
		return nil
	}
	behind := new(big.Int).Sub(new(big.Int).SetUint64(n), new(big.Int).SetUint64(l[i].First))
	from := behind.Mod(behind, big.NewInt(int64(len(l[i].Bookies))))
	return turned(l[i].Bookies, int(from.Int64()))[:w]
}

// unlike tells how many places there are that stand in both rows, each counted once.
func unlike(set, from []api.Place) int {
	var counted []api.Place
	for _, p := range set {
		if slices.Contains(from, p) && !slices.Contains(counted, p) {
			counted = append(counted, p)
		}
	}
	return len(counted)
}

// acked tells whether a of the set are among from.
func acked(set []api.Place, a int, from []api.Place) bool {
	return a > 0 && unlike(set, from) >= a
}

// missing tells whether w - a + 1 of the set are among from, as numbers without an end go.
func missing(set []api.Place, w, a int, from []api.Place) bool {
	most := new(big.Int).Sub(big.NewInt(int64(w)), big.NewInt(int64(a)))
	most.Add(most, big.NewInt(1))
	return most.Cmp(big.NewInt(int64(unlike(set, from)))) <= 0
}

// covered tells whether missing holds of all write sets of a fragment, of which there are any.
func covered(f api.Frag, w, a int, from []api.Place) bool {
	if w < 1 || w > len(f.Bookies) {
		return false
	}
	for i := range f.Bookies {
		if !missing(turned(f.Bookies, i)[:w], w, a, from) {
			return false
		}
	}
	return true
}

// nodes tells the nodes of places.
func nodes(l []api.Place) []int {
	var all []int
	for _, p := range l {
		all = append(all, p.Node)
	}
	return all
}

// pick tells the places for a fragment.
func pick(known []api.Place, e, w int, not []int) ([]api.Place, api.Errno) {
	if w < 1 || e < w || e > 5 {
		return nil, api.ErrArg
	}
	var l []api.Place
	for i, p := range known {
		if !slices.Contains(not, p.Node) && !slices.Contains(nodes(known[:i]), p.Node) {
			l = append(l, p)
		}
	}
	if len(l) < w {
		return nil, api.ErrFull
	}
	return l[:min(e, len(l))], api.OK
}

// put tells a fragment with another place at a number; false: one of the other numbers has its node.
func put(f api.Frag, i int, fresh api.Place) (api.Frag, bool) {
	ahead, behind := f.Bookies[:i], f.Bookies[i+1:]
	if slices.Contains(nodes(slices.Concat(ahead, behind)), fresh.Node) {
		return api.Frag{}, false
	}
	return frag(f.First, slices.Concat(ahead, []api.Place{fresh}, behind)...), true
}

// swap tells a fragment with a place instead of another one.
func swap(f api.Frag, old, fresh api.Place) (api.Frag, bool) {
	for i, p := range f.Bookies {
		if p == old {
			return put(f, i, fresh)
		}
	}
	return api.Frag{}, false
}

// done tells what Renew did, one number for each of its steps.
type done struct{ replaced, out, behind int }

// renew tells a fragment without bad places, as far as may be, and what was done for that.
func renew(f api.Frag, w, e int, bad, known []api.Place) (api.Frag, done) {
	var d done
	var good []api.Place
	for _, p := range known {
		if !slices.Contains(bad, p) {
			good = append(good, p)
		}
	}
	g := f
	for i := range f.Bookies {
		for _, p := range good {
			if swapped, ok := put(g, i, p); ok && slices.Contains(bad, g.Bookies[i]) {
				g = swapped
				d.replaced++
				break
			}
		}
	}
	for i := 0; i < len(g.Bookies); {
		if len(g.Bookies) > w && slices.Contains(bad, g.Bookies[i]) {
			g = frag(g.First, slices.Concat(g.Bookies[:i], g.Bookies[i+1:])...)
			d.out++
		} else {
			i++
		}
	}
	if d.replaced+d.out == 0 {
		return api.Frag{}, d
	}
	for _, p := range good {
		if len(g.Bookies) < e && len(g.Bookies) < 5 && !slices.Contains(nodes(g.Bookies), p.Node) {
			g = frag(g.First, slices.Concat(g.Bookies, []api.Place{p})...)
			d.behind++
		}
	}
	return g, d
}

// Looking at the package's answers.

// some tells the beginning of a row that may be too long to be told.
func some[T any](l []T) []T { return l[:min(len(l), 20)] }

// isFrag looks whether Frag answers that.
func isFrag(t *testing.T, l []api.Frag, n uint64, want api.Frag, ok bool) {
	t.Helper()
	if f, got := stripe.Frag(l, n); !alike(f, want) || got != ok {
		t.Errorf("Frag(%v, %d): %v, %v, not %v, %v", l, n, f, got, want, ok)
	}
}

// isSet looks whether Set answers that.
func isSet(t *testing.T, l []api.Frag, w int, n uint64, want ...api.Place) {
	t.Helper()
	if got := stripe.Set(l, w, n); !slices.Equal(got, want) {
		t.Errorf("Set(%v, %d, %d): %v, not %v", l, w, n, got, want)
	}
}

// isAcked looks whether Acked answers that.
func isAcked(t *testing.T, want bool, set []api.Place, a int, from ...api.Place) {
	t.Helper()
	if got := stripe.Acked(set, a, from...); got != want {
		t.Errorf("Acked(%v, %d, %v): %v", some(set), a, some(from), got)
	}
}

// isMissing looks whether Missing answers that.
func isMissing(t *testing.T, want bool, set []api.Place, w, a int, from ...api.Place) {
	t.Helper()
	if got := stripe.Missing(set, w, a, from...); got != want {
		t.Errorf("Missing(%v, %d, %d, %v): %v", some(set), w, a, some(from), got)
	}
}

// isCovered looks whether Covered answers that.
func isCovered(t *testing.T, want bool, f api.Frag, w, a int, from ...api.Place) {
	t.Helper()
	if got := stripe.Covered(f, w, a, from...); got != want {
		t.Errorf("Covered(%v, %d, %d, %v): %v", some(f.Bookies), w, a, some(from), got)
	}
}

// isPicked looks whether Pick answers that, and no places beside an error.
func isPicked(t *testing.T, want []api.Place, e api.Errno, known []api.Place, most, w int, not ...int) {
	t.Helper()
	if l, got := stripe.Pick(known, most, w, not...); !slices.Equal(l, want) || got != e {
		t.Errorf("Pick(%v, %d, %d, %v): %v, %d, not %v, %d", some(known), most, w, some(not), l, got, want, e)
	}
}

// isSwapped looks whether Swap answers that.
func isSwapped(t *testing.T, want api.Frag, ok bool, f api.Frag, old, fresh api.Place) {
	t.Helper()
	if g, got := stripe.Swap(f, old, fresh); !alike(g, want) || got != ok {
		t.Errorf("Swap(%v, %v, %v): %v, %v, not %v, %v", f, old, fresh, g, got, want, ok)
	}
}

// isRenewed looks whether Renew answers that.
func isRenewed(t *testing.T, want api.Frag, ok bool, f api.Frag, w, e int, bad, known []api.Place) {
	t.Helper()
	if g, got := stripe.Renew(f, w, e, bad, known); !alike(g, want) || got != ok {
		t.Errorf("Renew(%v, %d, %d, %v, %v): %v, %v, not %v, %v", f, w, e, some(bad), some(known), g, got, want, ok)
	}
}

// rows goes over all rows of up to so many of those places.
func rows(most int, of []api.Place) iter.Seq[[]api.Place] {
	return func(yield func([]api.Place) bool) {
		todo := [][]api.Place{nil}
		for len(todo) > 0 {
			row := todo[0]
			todo = todo[1:]
			if !yield(row) {
				return
			}
			if len(row) < most {
				for _, p := range of {
					todo = append(todo, append(slices.Clone(row), p))
				}
			}
		}
	}
}

// oneOf tells one of those.
func oneOf[T any](d *rand.Rand, l []T) T { return l[d.IntN(len(l))] }

// anyRow tells a row of up to so many of those, some of them perhaps more than once.
func anyRow[T any](d *rand.Rand, most int, l []T) []T {
	var row []T
	for range d.IntN(most + 1) {
		row = append(row, oneOf(d, l))
	}
	return row
}

// places tells all places of nodes 1 to n with their first disks, and their next ones.
func places(n int) []api.Place {
	var l []api.Place
	for node := 1; node <= n; node++ {
		l = append(l, at(node, 1), at(node, 2))
	}
	return l
}

// mayBe tells a fragment that may be: from first to last unlike nodes, in any order, with disks of serials 1 and 2.
func mayBe(d *rand.Rand, least, most int) api.Frag {
	f := frag(1)
	for _, i := range d.Perm(8)[:least+d.IntN(most-least+1)] {
		f.Bookies = append(f.Bookies, at(i+1, 1+d.Uint64N(2)))
	}
	return f
}
