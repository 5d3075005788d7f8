package copier_test

import (
	"math"
	"math/rand/v2"
	"reflect"
	"testing"

	"scrivener/api"
	"scrivener/copier"
	"scrivener/plan"
)

// three tells the ledger of the chapter's examples.
func three() api.Ledger {
	return api.Ledger{Id: 1, W: 2, A: 2, Closed: 1, Last: 3, Frags: []api.Frag{frag(1, firsts(7, 8, 9)...)}}
}

// wide tells a ledger of eight entries, each of them on three of four places at first, from entry 5 on on three of three others.
func wide() api.Ledger {
	return api.Ledger{Id: 3, W: 3, A: 2, Closed: 1, Last: 8, Frags: []api.Frag{frag(1, firsts(5, 6, 7, 8)...), frag(5, firsts(9, 5, 10)...)}}
}

// isAsked looks whether those places are asked for the entry of the ledger, and nothing else is asked.
func isAsked(t *testing.T, reqs []api.Req, ledger, n uint64, to ...api.Place) {
	t.Helper()
	var l []api.Req
	for _, p := range to {
		l = append(l, api.Req{To: p, Kind: api.ReqGet, Ledger: ledger, N: n})
	}
	if !alike(reqs, l) {
		t.Errorf("asked: %+v\nnot    %+v", reqs, l)
	}
}

// isPut looks whether a place is asked to have an entry of a ledger with that last one, and nothing else is asked.
func isPut(t *testing.T, reqs []api.Req, ledger, last, n uint64, body string, to api.Place) {
	t.Helper()
	l := []api.Req{{To: to, Kind: api.ReqAdd, Ledger: ledger, N: n, Sure: last, Copy: 1, Body: []byte(body)}}
	if !alike(reqs, l) {
		t.Errorf("asked: %+v\nnot    %+v", reqs, l)
	}
}

// isNone looks whether nothing is asked.
func isNone(t *testing.T, reqs []api.Req) {
	t.Helper()
	if len(reqs) > 0 {
		t.Errorf("asked: %+v", reqs)
	}
}

// stays looks whether a copier is as it was.
func stays(t *testing.T, c, was api.Copier) {
	t.Helper()
	if !alike(c, was) {
		t.Errorf("%+v\nnot %+v", c, was)
	}
}

// The examples of the chapter.
func TestExamples(t *testing.T) {
	l := three()
	if x := had(t, l, at(8, 1)); !alike(x, []uint64{1, 2}) {
		t.Error(x)
	}
	if !fits(t, l, at(8, 1), at(8, 2)) || fits(t, l, at(8, 1), at(9, 2)) || fits(t, l, at(5, 1), at(6, 1)) {
		t.Error("fits")
	}
	if x := finds(t, api.Plan{Ledgers: []api.Ledger{l}}, at(7, 1), at(8, 2), at(9, 1)); x != (found{1, at(8, 1), at(8, 2), true}) {
		t.Error(x)
	}
	x := begins(t, l, at(8, 1), at(8, 2), 5)
	isAsked(t, x.reqs, 1, 1, at(7, 1))
	x = takes(t, x.c, 6, got(1, 1, at(7, 1), "x"))
	isPut(t, x.reqs, 1, 3, 1, "x", at(8, 2))
	x = takes(t, x.c, 7, put(1, 1, at(8, 2), api.RespOk))
	isAsked(t, x.reqs, 1, 2, at(9, 1))
	x = takes(t, x.c, 8, got(1, 2, at(9, 1), "y"))
	isPut(t, x.reqs, 1, 3, 2, "y", at(8, 2))
	x = takes(t, x.c, 9, put(1, 2, at(8, 2), api.RespOk))
	isNone(t, x.reqs)
	stays(t, x.c, api.Copier{Ledger: l, From: at(8, 1), To: at(8, 2), Phase: 3, Born: 7, Since: 8})
}

// P18.1: a place fits where no other place of its node stands in the fragments that it would come into.
func TestFits(t *testing.T) {
	l := wide() // 5.1 6.1 7.1 8.1; 9.1 5.1 10.1
	l.Frags = append(l.Frags, frag(7, at(6, 2), at(7, 1), at(8, 3)))
	for _, c := range []struct {
		from, to api.Place
		fits     bool
	}{
		{at(5, 1), at(5, 1), false},                                                              // it is that one
		{at(5, 1), at(5, 2), true},                                                               // its node, another disk
		{at(5, 2), at(5, 1), false},                                                              // that one is not there
		{at(5, 2), at(5, 3), false},                                                              // nor is it
		{at(5, 1), at(11, 1), true},                                                              // a node that is nowhere
		{at(5, 1), at(6, 2), false},                                                              // beside it in the first
		{at(5, 1), at(9, 1), false},                                                              // beside it in the second
		{at(5, 1), at(10, 7), false},                                                             // beside it in the second, at its end
		{at(6, 1), at(10, 1), true},                                                              // beside it nowhere
		{at(6, 1), at(9, 1), true},                                                               // beside it nowhere
		{at(6, 1), at(6, 2), true},                                                               // it stands elsewhere
		{at(6, 2), at(6, 1), true},                                                               // it stands elsewhere
		{at(6, 2), at(5, 1), true},                                                               // it stands elsewhere
		{at(7, 1), at(9, 1), true},                                                               // beside it nowhere, though it stands twice
		{at(7, 1), at(6, 3), false},                                                              // beside it in both
		{at(8, 1), at(8, 3), true},                                                               // it stands elsewhere
		{at(9, 1), at(7, 1), true},                                                               // beside it nowhere
		{at(11, 1), at(12, 1), false},                                                            // that one is not there
		{at(0, 0), at(11, 1), false},                                                             // that one is not there
		{at(5, 1), at(0, 0), true}, {at(5, 1), at(-1, 0), true}, {at(5, 1), at(16, top+1), true}, // it may be no place
	} {
		if fits(t, l, c.from, c.to) != c.fits {
			t.Errorf("%v, %v: not %v", c.from, c.to, c.fits)
		}
		open := l
		open.Closed, open.Last = 0, 0
		if fits(t, open, c.from, c.to) != c.fits {
			t.Errorf("open: %v, %v: not %v", c.from, c.to, c.fits)
		}
	}
}

// P18.1: of ledgers that may not be: as the words say.
func TestFitsAny(t *testing.T) {
	if fits(t, api.Ledger{}, at(1, 1), at(2, 1)) || fits(t, api.Ledger{}, api.Place{}, api.Place{}) {
		t.Error("there are no places")
	}
	l := api.Ledger{Frags: []api.Frag{{}, frag(0, at(7, 1), at(7, 1), at(7, 2)), frag(0, api.Place{})}}
	for _, c := range []struct {
		from, to api.Place
		fits     bool
	}{
		{at(7, 1), at(7, 3), false}, {at(7, 2), at(7, 3), false}, {at(7, 1), at(8, 1), true},
		{api.Place{}, at(7, 1), true}, {api.Place{}, at(0, 1), true}, {api.Place{}, api.Place{}, false},
	} {
		if fits(t, l, c.from, c.to) != c.fits {
			t.Errorf("%v, %v: not %v", c.from, c.to, c.fits)
		}
	}
	l.Frags[1].Bookies = l.Frags[1].Bookies[:2]
	if !fits(t, l, at(7, 1), at(7, 3)) {
		t.Error("that one stands there twice, no other one")
	}
}

// P18.1: the entries that a place had, by the fragments.
func TestHad(t *testing.T) {
	l := wide()
	rows := map[api.Place][]uint64{
		at(5, 1): {1, 3, 4, 5, 6, 7, 8}, at(6, 1): {1, 2, 4}, at(7, 1): {1, 2, 3}, at(8, 1): {2, 3, 4},
		at(9, 1): {5, 6, 7, 8}, at(10, 1): {5, 6, 7, 8},
		at(5, 2): nil, at(6, 0): nil, at(11, 1): nil, {}: nil, at(-1, 1): nil,
	}
	for last := range uint64(9) {
		l.Last = last
		for p, row := range rows {
			var upTo []uint64
			for _, n := range row {
				if n <= last {
					upTo = append(upTo, n)
				}
			}
			if x := had(t, l, p); !alike(x, upTo) {
				t.Errorf("%d, %v: %v, not %v", last, p, x, upTo)
			}
		}
	}
	l.Closed, l.Last = 0, 0
	for p := range rows {
		if x := had(t, l, p); len(x) > 0 {
			t.Errorf("open: %v", x)
		}
	}
}

// wrongs tells what may be wrong with the ledger of the examples.
func wrongs() map[string]func(l *api.Ledger) {
	return map[string]func(l *api.Ledger){
		"none":            func(l *api.Ledger) { *l = api.Ledger{} },
		"no Id":           func(l *api.Ledger) { l.Id = 0 },
		"Id too great":    func(l *api.Ledger) { l.Id = top + 1 },
		"open":            func(l *api.Ledger) { l.Closed, l.Last = 0, 0 },
		"open, with end":  func(l *api.Ledger) { l.Closed = 0 },
		"more than open":  func(l *api.Ledger) { l.Closed = -1 },
		"half closed":     func(l *api.Ledger) { l.Closed = 2 },
		"too far":         func(l *api.Ledger) { l.Last = 9 },
		"far too far":     func(l *api.Ledger) { l.Last = math.MaxUint64 },
		"no W":            func(l *api.Ledger) { l.W, l.A = 0, 0 },
		"W too great":     func(l *api.Ledger) { l.W = 4 },
		"no A":            func(l *api.Ledger) { l.A = 0 },
		"A above W":       func(l *api.Ledger) { l.A = 3 },
		"no fragments":    func(l *api.Ledger) { l.Frags = nil },
		"begins at 2":     func(l *api.Ledger) { l.Frags[0].First = 2 },
		"First twice":     func(l *api.Ledger) { l.Frags = append(l.Frags, l.Frags[0]) },
		"First too great": func(l *api.Ledger) { l.Frags = append(l.Frags, frag(10, firsts(7, 8)...)) },
		"node twice":      func(l *api.Ledger) { l.Frags[0].Bookies[2] = at(7, 2) },
		"no place":        func(l *api.Ledger) { l.Frags[0].Bookies[0] = at(7, 0) },
		"no node":         func(l *api.Ledger) { l.Frags[0].Bookies[0] = at(16, 1) },
	}
}

// P18.1, P18.2: of a ledger that is open, or may not be, a place had no entries, and nothing is copied.
func TestWrongLedgers(t *testing.T) {
	for name, does := range wrongs() {
		l := three()
		does(&l)
		if x := had(t, l, at(8, 1)); len(x) > 0 {
			t.Errorf("%s: %v", name, x)
		}
		for _, to := range []api.Place{at(8, 2), at(5, 1)} {
			if x := begins(t, l, at(8, 1), to, 3); !alike(x, told{e: api.ErrArg}) || !copier.Same(x.c, api.Copier{}) || x.reqs != nil {
				t.Errorf("%s: %+v", name, x)
			}
		}
	}
}

// P18.2: a copier asks the others for the first entry that the place had.
func TestNew(t *testing.T) {
	for from, c := range map[api.Place]struct {
		n  uint64
		to []api.Place
	}{
		at(5, 1):  {1, firsts(6, 7)},
		at(6, 1):  {1, firsts(5, 7)},
		at(7, 1):  {1, firsts(5, 6)},
		at(8, 1):  {2, firsts(6, 7)},
		at(9, 1):  {5, firsts(5, 10)},
		at(10, 1): {5, firsts(9, 5)},
	} {
		for _, to := range []api.Place{at(from.Node, 2), at(15, top), at(11, 1), {}} {
			for _, now := range []uint64{0, 7, math.MaxUint64} {
				x := begins(t, wide(), from, to, now)
				stays(t, x.c, api.Copier{Ledger: wide(), From: from, To: to, Phase: 1, N: c.n, Born: now, Since: now})
				isAsked(t, x.reqs, 3, c.n, c.to...)
			}
		}
	}
}

// P18.2: if the place had nothing, all is copied.
func TestNewOfNothing(t *testing.T) {
	for last := range uint64(2) {
		l := wide()
		l.Last = last
		x := begins(t, l, at(8, 1), at(8, 2), 7)
		stays(t, x.c, api.Copier{Ledger: l, From: at(8, 1), To: at(8, 2), Phase: 3})
		isNone(t, x.reqs)
	}
}

// P18.2: if nobody else had the entry, nobody is asked.
func TestNewOfOne(t *testing.T) {
	l := three()
	l.W, l.A = 1, 1
	x := begins(t, l, at(8, 1), at(8, 2), 7)
	stays(t, x.c, api.Copier{Ledger: l, From: at(8, 1), To: at(8, 2), Phase: 1, N: 2, Born: 7, Since: 7})
	isNone(t, x.reqs)
}

// P18.2: what does not fit.
func TestNoNew(t *testing.T) {
	for _, c := range [][2]api.Place{
		{at(8, 1), at(8, 1)}, {at(8, 1), at(9, 2)}, {at(8, 1), at(7, 1)}, {at(8, 2), at(8, 1)}, {at(5, 1), at(6, 1)}, {at(8, 2), at(8, 3)}, {},
	} {
		if x := begins(t, three(), c[0], c[1], 3); !alike(x, told{e: api.ErrArg}) || x.reqs != nil {
			t.Errorf("%v: %+v", c, x)
		}
	}
}

// P18.1: what is found is the first of all that may be: by ledgers, by fragments, by places, then by those that are known.
func TestFind(t *testing.T) {
	first, second, third := wide(), three(), three()
	first.Id, second.Id, third.Id = 4, 2, 9
	second.Frags = []api.Frag{frag(1, firsts(12, 13)...)}
	second.Closed, second.Last = 0, 0
	p := api.Plan{Ledgers: []api.Ledger{first, second, third}} // 5 6 7 8, 9 5 10; open: 12 13; 7 8 9
	for name, c := range map[string]struct {
		known []api.Place
		want  found
	}{
		"none is known":               {nil, found{}},
		"none is gone":                {firsts(5, 6, 7, 8, 9, 10, 11, 12, 13), found{}},
		"first one":                   {[]api.Place{at(5, 2)}, found{4, at(5, 1), at(5, 2), true}},
		"known by a lesser serial":    {[]api.Place{at(5, 0)}, found{4, at(5, 1), at(5, 0), true}},
		"by another node":             {[]api.Place{at(11, 1), at(5, 2)}, found{4, at(5, 1), at(11, 1), true}},
		"the first that fits":         {[]api.Place{at(6, 1), at(10, 1), at(9, 1), at(5, 3), at(12, 1), at(11, 1)}, found{4, at(5, 1), at(5, 3), true}},
		"the first that fits, behind": {[]api.Place{at(6, 1), at(10, 1), at(12, 1), at(5, 3), at(11, 1)}, found{4, at(5, 1), at(12, 1), true}},
		"first of two":                {[]api.Place{at(8, 2), at(7, 2)}, found{4, at(7, 1), at(7, 2), true}},
		"another fragment":            {[]api.Place{at(10, 2), at(5, 1), at(9, 1)}, found{4, at(10, 1), at(10, 2), true}},
		"in an earlier one's place":   {[]api.Place{at(5, 1), at(10, 2), at(8, 2)}, found{4, at(8, 1), at(10, 2), true}},
		"of another fragment":         {[]api.Place{at(9, 1), at(10, 1), at(8, 2)}, found{4, at(8, 1), at(9, 1), true}},
		"of an open ledger":           {[]api.Place{at(12, 2), at(13, 2)}, found{}},
		"gone itself":                 {[]api.Place{at(8, 2), at(8, 3), at(11, 1), at(11, 2)}, found{}},
		"gone, though it is known":    {[]api.Place{at(8, 1), at(8, 2), at(11, 1)}, found{4, at(8, 1), at(11, 1), true}},
		"known twice":                 {[]api.Place{at(8, 2), at(8, 2), at(11, 1)}, found{4, at(8, 1), at(8, 2), true}},
	} {
		if x := finds(t, p, c.known...); x != c.want {
			t.Errorf("%s: %+v", name, x)
		}
	}
	// What cannot be replaced in one place, may be in another one, and in another ledger.
	p.Ledgers[0].Frags = []api.Frag{frag(1, at(5, 1), at(6, 1), at(7, 1), at(11, 1)), frag(3, at(9, 1), at(8, 1), at(6, 2))}
	for name, c := range map[string]struct {
		known []api.Place
		want  found
	}{
		"the second fragment": {[]api.Place{at(6, 3), at(6, 4), at(11, 1)}, found{4, at(6, 2), at(11, 1), true}},
		"the third ledger":    {[]api.Place{at(7, 2), at(7, 3), at(11, 1)}, found{9, at(7, 1), at(11, 1), true}},
		"none":                {[]api.Place{at(5, 2), at(5, 3), at(11, 1)}, found{}},
	} {
		if x := finds(t, p, c.known...); x != c.want {
			t.Errorf("%s: %+v", name, x)
		}
	}
}

// P18.1: what is found is told of any plan's closed ledgers; 1 alone tells that one is.
func TestFindAny(t *testing.T) {
	l := three()
	for closed, ok := range map[int]bool{0: false, 1: true, 2: false, -1: false, math.MaxInt: false} {
		l.Closed = closed
		if x := findsIn(l, at(8, 2)); x.ok != ok || !ok && x != (found{}) {
			t.Errorf("%d: %+v", closed, x)
		}
	}
	l = api.Ledger{Id: top + 7, Closed: 1, Last: 99, Frags: []api.Frag{{}, frag(0, at(-3, 0), at(-3, 0)), frag(9)}}
	if x := finds(t, api.Plan{Version: math.MaxUint64, Ledgers: []api.Ledger{{}, l}}, at(-3, math.MaxUint64)); x != (found{top + 7, at(-3, 0), at(-3, math.MaxUint64), true}) {
		t.Errorf("%+v", x)
	}
	if x := finds(t, api.Plan{}, at(8, 2)); x != (found{}) {
		t.Errorf("%+v", x)
	}
	l = three()
	l.Last = 0 // a place that had nothing is replaced, too
	if x := finds(t, api.Plan{Ledgers: []api.Ledger{l}}, at(9, 2)); x != (found{1, at(9, 1), at(9, 2), true}) {
		t.Errorf("%+v", x)
	}
}

// findsIn has Find called with one ledger.
func findsIn(l api.Ledger, known ...api.Place) (x found) {
	x.ledger, x.from, x.to, x.ok = copier.Find(api.Plan{Ledgers: []api.Ledger{l}}, known...)
	return x
}

// P18.1: whatever the plan, and whoever is known.
func TestFindDrawn(t *testing.T) {
	d := rand.New(rand.NewPCG(18, 1))
	all := seen{}
	for range 20000 {
		p, known := drawPlan(d), drawKnown(d)
		for range one(d, 0, 0, 0, 1, 3) {
			p, known = altered(d, p), altered(d, known)
		}
		x := finds(t, p, known...)
		all.count("found", x.ok)
		all.count("not found", !x.ok && len(p.Ledgers) > 0)
		all.count("the first ledger", x.ok && len(p.Ledgers) > 1 && x.ledger == p.Ledgers[0].Id)
		all.count("another ledger", x.ok && x.ledger != p.Ledgers[0].Id)
		all.count("another place", x.ok && x.from.Node != x.to.Node)
		for _, l := range p.Ledgers {
			from, to := drawPair(d, l)
			all.count("fits", fits(t, l, from, to))
			all.count("fits not", !fits(t, l, from, at(one(d, 5, 6, 7), 1)))
			all.count("had", len(had(t, l, from)) > 0)
			all.count("had none", len(had(t, l, from)) == 0)
		}
	}
	for _, name := range []string{"found", "not found", "the first ledger", "another ledger", "another place", "fits", "fits not", "had", "had none"} {
		all.least(t, map[string]int{name: 1000})
	}
}

// P18.1: what is found is copied: New takes it.
func TestFoundIsNew(t *testing.T) {
	d := rand.New(rand.NewPCG(18, 2))
	all := seen{}
	for range 5000 {
		p := drawPlan(d)
		x := finds(t, p, drawKnown(d)...)
		if !x.ok {
			continue
		}
		all.count("found", true)
		// An Id that stands there twice is another ledger's, too; none does in a plan that may be.
		for _, l := range p.Ledgers {
			if y, ok := plan.Find(p, x.ledger); !ok || l.Id == x.ledger && !alike(l, y) {
				x.ok = false
			}
		}
		l, _ := plan.Find(p, x.ledger)
		if x.ok && begins(t, l, x.from, x.to, 3).e != api.OK {
			t.Fatalf("%+v: %+v", p, x)
		}
		all.count("told", x.ok)
	}
	all.least(t, map[string]int{"found": 1000, "told": 300})
}

// whole tells a copier none of whose fields is zero.
func whole() api.Copier {
	return api.Copier{
		Ledger: api.Ledger{Id: 21, W: 22, A: 23, Closed: 24, Last: 25, Frags: []api.Frag{frag(26, at(27, 28), at(29, 30)), frag(31, at(32, 33))}},
		From:   at(1, 2), To: at(3, 4), Phase: 5, N: 6, None: []api.Place{at(7, 8), at(9, 10)}, Body: []byte{11, 12}, Born: 13, Since: 14,
	}
}

// P18.5: two copiers are the same if each field is, a list by what stands in it.
func TestSame(t *testing.T) {
	same := func(want bool, a, b api.Copier) {
		t.Helper()
		if copier.Same(a, b) != want || copier.Same(b, a) != want {
			t.Fatalf("%+v, %+v: not %v", a, b, want)
		}
	}
	c := whole()
	same(true, c, twin(c))
	same(true, api.Copier{}, api.Copier{Ledger: api.Ledger{Frags: []api.Frag{}}, None: []api.Place{}, Body: []byte{}})
	same(true, api.Copier{Ledger: api.Ledger{Frags: []api.Frag{{}}}}, api.Copier{Ledger: api.Ledger{Frags: []api.Frag{{Bookies: []api.Place{}}}}})
	same(false, api.Copier{}, api.Copier{None: []api.Place{{}}})
	same(false, api.Copier{}, api.Copier{Body: []byte{0}})
	same(false, api.Copier{}, api.Copier{Ledger: api.Ledger{Frags: []api.Frag{{}}}})
	n := 0
	walk(reflect.ValueOf(&c).Elem(), func(reflect.Value) { n++ })
	for i := range n {
		g, k := twin(c), 0
		walk(reflect.ValueOf(&g).Elem(), func(v reflect.Value) {
			if k == i {
				set(v, 77)
			}
			k++
		})
		same(false, c, g)
	}
	for i := range walk(reflect.ValueOf(c), func(reflect.Value) {}) {
		g := twin(c)
		l := walk(reflect.ValueOf(&g).Elem(), func(reflect.Value) {})[i]
		l.Set(l.Slice(0, l.Len()-1))
		same(false, c, g)
	}
	d := rand.New(rand.NewPCG(18, 3))
	for range 2000 {
		a := drawAny(d)
		b := altered(d, a)
		same(alike(a, b), a, b)
		same(true, b, twin(b))
	}
}

// seen counts what came of calls, by names.
type seen map[string]int

// count counts something that is so.
func (s seen) count(name string, is bool) {
	if is {
		s[name]++
	}
}

// least looks whether each of those came that often.
func (s seen) least(t *testing.T, often map[string]int) {
	t.Helper()
	for name, n := range often {
		if s[name] < n {
			t.Errorf("%s comes %d times", name, s[name])
		}
	}
}

// P18.2 to P18.5: whatever the copier, and whatever it is told: what the words say.
func TestDrawn(t *testing.T) {
	d := rand.New(rand.NewPCG(18, 4))
	all := seen{}
	for range 30000 {
		c := drawAny(d)
		r := drawResp(d, c)
		for range one(d, 0, 0, 0, 0, 1, 2) {
			r = altered(d, r)
		}
		now := one(d, 0, d.Uint64N(70), d.Uint64N(70), c.Born+8, c.Born+9, c.Since+2, c.Since+3, math.MaxUint64)
		for name, x := range map[string]told{"took": takes(t, c, now, r), "ticked": ticks(t, c, now)} {
			all.count(name+", copies", c.Phase == 1 && x.c.Phase == 2)
			all.count(name+", heard none", len(x.c.None) > len(c.None))
			all.count(name+", went on", c.Phase == 2 && x.c.Phase == 1)
			all.count(name+", had all", c.Phase == 2 && x.c.Phase == 3)
			all.count(name+", gave up", c.Phase != 4 && x.c.Phase == 4)
			all.count(name+", nothing", alike(x.c, c))
			all.count(name+", asked anew", c.Phase == x.c.Phase && c.N == x.c.N && len(x.reqs) > 0)
			all.count(name+", forgot", c.Phase == 1 && x.c.Phase == 1 && len(x.c.None) < len(c.None))
			all.count(name+", asked many", len(x.reqs) > 1)
		}
		x := begins(t, c.Ledger, c.From, c.To, now)
		all.count("began", x.e == api.OK && len(x.reqs) > 0)
		all.count("refused", x.e != api.OK)
		all.count("had nothing", x.c.Phase == 3)
	}
	for _, name := range []string{
		"took, copies", "took, heard none", "took, went on", "took, had all", "took, gave up", "took, nothing",
		"ticked, gave up", "ticked, nothing", "ticked, asked anew", "ticked, forgot", "ticked, asked many", "began", "refused", "had nothing",
	} {
		all.least(t, map[string]int{name: 300})
	}
	for _, name := range []string{"took, asked anew", "ticked, copies", "ticked, went on", "ticked, had all", "ticked, heard none"} {
		if all[name] > 0 {
			t.Errorf("%s comes %d times", name, all[name])
		}
	}
}
