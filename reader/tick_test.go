package reader_test

import (
	"math"
	"testing"

	"scrivener/api"
)

// P17.3: three ticks behind being asked, or more, the next place is.
func TestAgain(t *testing.T) {
	for i, next := range []int{1, 2, 0} {
		for _, since := range []uint64{0, 1, 20, math.MaxUint64 - 3} {
			f := wide(t, i)
			f.Since = since
			for _, now := range []uint64{since + 3, math.MaxUint64} {
				passes(t, ticks(t, f, now), f, next, now)
			}
			for _, now := range []uint64{since, since + 1, since + 2, 0, since / 2} {
				x := ticks(t, f, now)
				stays(t, x.f, f)
				isAsked(t, x.reqs)
			}
		}
		// There is no tick that is three behind these.
		for _, since := range []uint64{math.MaxUint64 - 2, math.MaxUint64 - 1, math.MaxUint64} {
			f := wide(t, i)
			f.Since = since
			for _, now := range []uint64{0, 1, 2, 3, 100, since, math.MaxUint64} {
				x := ticks(t, f, now)
				stays(t, x.f, f)
				isAsked(t, x.reqs)
			}
		}
	}
}

// P17.3: round and round, each place at its turn.
func TestRound(t *testing.T) {
	f, now := wide(t, 0), uint64(3)
	for i := range 30 {
		x := ticks(t, f, now+2)
		isAsked(t, x.reqs)
		now += 3
		x = ticks(t, x.f, now)
		isAsked(t, x.reqs, firsts(8, 9, 7)[i%3])
		f = x.f
	}
}

// P17.5: whichever place is asked, by its number: the next one is the one behind, modulo how many there are.
func TestAnyAt(t *testing.T) {
	for at, next := range map[int]int{
		0: 1, 1: 2, 2: 0, 3: 1, 4: 2, 5: 0, 6: 1, 300: 1,
		math.MaxInt - 1: math.MaxInt % 3, math.MaxInt - 2: (math.MaxInt - 1) % 3, math.MaxInt: 0,
		-1: 0, -2: 0, -3: 0, -4: 0, -300: 0, math.MinInt: 0, math.MinInt + 1: 0,
	} {
		f := wide(t, 0)
		f.At = at
		passes(t, ticks(t, f, 9), f, next, 9)
		if at >= 0 && at < 3 {
			continue
		}
		// None of the places is the one that is asked, but each may have the entry.
		for code := 1; code <= 4; code++ {
			for _, p := range append(firsts(7, 8, 9), api.Place{}) {
				aside(t, f, resp(code, p))
			}
		}
		x := takes(t, f, 9, resp(api.RespOk, f.Set[1]))
		f.Done, f.Body = 1, []byte("x")
		stays(t, x.f, f)
	}
}

// P17.5: without places nothing is asked, and no answer is one of its places'.
func TestNoPlaces(t *testing.T) {
	for _, i := range []int{0, 1, -1, 7, math.MaxInt, math.MinInt} {
		f := wide(t, i)
		f.Set = nil
		for _, now := range []uint64{3, 6, math.MaxUint64} {
			x := ticks(t, f, now)
			stays(t, x.f, f)
			isAsked(t, x.reqs)
		}
		for code := range 5 {
			aside(t, f, resp(code, at(7, 1)))
			aside(t, f, resp(code, api.Place{}))
		}
	}
}

// P17.4: if the entry stands on other places by the ledger as it is now, it begins anew there.
func TestMoved(t *testing.T) {
	for name, c := range map[string]struct {
		w     int
		frags []api.Frag
		set   []api.Place
	}{
		"another place":         {2, []api.Frag{frag(1, firsts(7, 8, 6)...)}, firsts(8, 6)},
		"another disk":          {2, []api.Frag{frag(1, at(7, 1), at(8, 2), at(9, 1))}, []api.Place{at(8, 2), at(9, 1)}},
		"one more":              {3, []api.Frag{frag(1, firsts(7, 8, 9)...)}, firsts(8, 9, 7)},
		"one less":              {1, []api.Frag{frag(1, firsts(7, 8, 9)...)}, firsts(8)},
		"the same, turned":      {2, []api.Frag{frag(1, firsts(7, 9, 8)...)}, firsts(9, 8)},
		"by a second fragment":  {2, []api.Frag{frag(1, firsts(7, 8, 9)...), frag(2, firsts(5, 6)...)}, firsts(5, 6)},
		"the same, from then":   {2, []api.Frag{frag(1, firsts(7, 8, 9)...), frag(2, firsts(7, 8, 9)...)}, firsts(7, 8)},
		"a fragment less":       {2, []api.Frag{frag(1, firsts(3, 4, 5)...)}, firsts(4, 5)},
		"another one behind it": {2, []api.Frag{frag(1, firsts(3, 4)...), frag(3, firsts(7, 8, 9)...)}, firsts(4, 3)},
	} {
		for _, i := range []int{0, 1, -1, 7} {
			f := fresh(t, three())
			f.At = i
			for _, closed := range []int{0, 1} {
				l := api.Ledger{Id: 1, W: c.w, A: 1, Frags: c.frags, Closed: closed}
				for _, now := range []uint64{0, 3, 20} {
					x := moves(t, f, now, l)
					want := twin(f)
					want.Set, want.At, want.Since = c.set, 0, now
					stays(t, x.f, want)
					if isAsked(t, x.reqs, c.set[0]); t.Failed() {
						t.Fatal(name)
					}
				}
			}
		}
	}
}

// P17.4: nothing, if it stands where it stood, or the ledger is another one, or may not be.
func TestNotMoved(t *testing.T) {
	for name, l := range map[string]api.Ledger{
		"the same":                 three(),
		"closed":                   {Id: 1, W: 2, A: 2, Frags: three().Frags, Closed: 1, Last: 2},
		"closed ahead of it":       {Id: 1, W: 2, A: 2, Frags: three().Frags, Closed: 1, Last: 1},
		"another A":                {Id: 1, W: 2, A: 1, Frags: three().Frags},
		"another place beside it":  {Id: 1, W: 2, A: 2, Frags: []api.Frag{frag(1, firsts(5, 8, 9)...)}},
		"another fragment behind":  {Id: 1, W: 2, A: 2, Frags: []api.Frag{frag(1, firsts(7, 8, 9)...), frag(3, firsts(5, 6)...)}},
		"another fragment of it":   {Id: 1, W: 2, A: 2, Frags: []api.Frag{frag(1, firsts(5, 6)...), frag(2, firsts(8, 9)...)}},
		"another Id":               {Id: 2, W: 2, A: 2, Frags: []api.Frag{frag(1, firsts(5, 6)...)}},
		"no Id":                    {W: 2, A: 2, Frags: []api.Frag{frag(1, firsts(5, 6)...)}},
		"no ledger":                {},
		"its Id alone":             {Id: 1},
		"W too great":              {Id: 1, W: 3, A: 2, Frags: []api.Frag{frag(1, firsts(5, 6)...)}},
		"no A":                     {Id: 1, W: 2, Frags: []api.Frag{frag(1, firsts(5, 6)...)}},
		"begins at 2":              {Id: 1, W: 2, A: 2, Frags: []api.Frag{frag(2, firsts(5, 6)...)}},
		"half closed":              {Id: 1, W: 2, A: 2, Frags: []api.Frag{frag(1, firsts(5, 6)...)}, Closed: 2},
		"open, with end":           {Id: 1, W: 2, A: 2, Frags: []api.Frag{frag(1, firsts(5, 6)...)}, Last: 2},
		"closed, end too far":      {Id: 1, W: 2, A: 2, Frags: []api.Frag{frag(1, firsts(5, 6)...)}, Closed: 1, Last: 9},
		"a node twice":             {Id: 1, W: 2, A: 2, Frags: []api.Frag{frag(1, at(5, 1), at(5, 2))}},
		"a fragment that is wrong": {Id: 1, W: 2, A: 2, Frags: []api.Frag{frag(1, firsts(5, 6)...), frag(3, firsts(4)...)}},
	} {
		for _, i := range []int{0, 1, -1, 7} {
			f := fresh(t, three())
			f.At = i
			x := moves(t, f, 20, l)
			stays(t, x.f, f)
			if isAsked(t, x.reqs); t.Failed() {
				t.Fatal(name)
			}
		}
	}
}

// P17.4: an Id that none may have is none, though the fetch has it; of an entry that none may have it goes by the words.
func TestMovedAny(t *testing.T) {
	l := three()
	for _, id := range []uint64{0, top + 1, math.MaxUint64} {
		f := fresh(t, three())
		f.Ledger, l.Id = id, id
		l.Frags = []api.Frag{frag(1, firsts(5, 6)...)}
		x := moves(t, f, 20, l)
		stays(t, x.f, f)
		isAsked(t, x.reqs)
	}
	f := fresh(t, three())
	f.N, f.At = 0, 1
	x := moves(t, f, 20, three())
	f.Set, f.At = nil, 0
	stays(t, x.f, f)
	isAsked(t, x.reqs)
	f.At = 5 // the same write set: none
	x = moves(t, f, 20, three())
	stays(t, x.f, f)
	isAsked(t, x.reqs)
	f.N = math.MaxUint64
	x = moves(t, f, 20, three())
	if !alike(x.f.Set, firsts(9, 7)) || x.f.At != 0 || x.f.Since != 20 || len(x.reqs) != 1 || x.reqs[0].To != at(9, 1) {
		t.Errorf("%+v", x) // (2^64 - 1) - 1 is 2, modulo 3
	}
}
