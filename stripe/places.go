package stripe

import (
	"slices"

	"scrivener/api"
)

// without tells those of a row that are not left out.
func without(row []api.Place, out func(api.Place) bool) []api.Place {
	return slices.DeleteFunc(slices.Clone(row), out)
}

// extend puts those of known behind a row whose nodes are not there, up to so many in all.
func extend(row []api.Place, most int, known []api.Place) []api.Place {
	for _, p := range known {
		there := func(q api.Place) bool { return q.Node == p.Node }
		if len(row) < most && !slices.ContainsFunc(row, there) {
			row = append(row, p)
		}
	}
	return row
}

// Pick tells places for a new fragment: e of those known, or at least w, each of another node, none of a node of not.
func Pick(known []api.Place, e, w int, not ...int) ([]api.Place, api.Errno) {
	if w < 1 || w > e || e > api.MaxBookies {
		return nil, api.ErrArg
	}
	barred := among(not...)
	free := without(known, func(p api.Place) bool { return barred(p.Node) })
	picked := extend(nil, e, free)
	if len(picked) < w {
		return nil, api.ErrFull
	}
	return picked, api.OK
}

// Swap tells the fragment with another place instead of an old one.
func Swap(f api.Frag, old, fresh api.Place) (api.Frag, bool) {
	at := slices.Index(f.Bookies, old)
	if at < 0 {
		return api.Frag{}, false
	}
	for i, p := range f.Bookies {
		if i != at && p.Node == fresh.Node {
			return api.Frag{}, false
		}
	}
	f.Bookies = slices.Clone(f.Bookies)
	f.Bookies[at] = fresh
	return f, true
}

// replace tells the fragment with an old place replaced by the first one of those that can be there; as it is, if none can.
func replace(f api.Frag, old api.Place, good []api.Place) api.Frag {
	for _, fresh := range good {
		if swapped, ok := Swap(f, old, fresh); ok {
			return swapped
		}
	}
	return f
}

// leave tells a row without those that are bad, as long as more than w are left.
func leave(row []api.Place, w int, bad func(api.Place) bool) []api.Place {
	var stay []api.Place
	left := len(row)
	for _, p := range row {
		if left > w && bad(p) {
			left--
		} else {
			stay = append(stay, p)
		}
	}
	return stay
}

// Renew tells the fragment with its bad places replaced by known ones, or left out, and others behind, up to e.
func Renew(f api.Frag, w, e int, bad, known []api.Place) (api.Frag, bool) {
	isBad := among(bad...)
	good := without(known, isBad)
	fresh := f
	for _, p := range f.Bookies {
		if isBad(p) {
			fresh = replace(fresh, p, good)
		}
	}
	row := leave(fresh.Bookies, w, isBad)
	// What is replaced is another place, as no good one is bad: so a row that is the same is one to which nothing was done.
	if slices.Equal(row, f.Bookies) {
		return api.Frag{}, false
	}
	fresh.Bookies = extend(row, min(e, api.MaxBookies), good)
	return fresh, true
}
