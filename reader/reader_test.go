package reader_test

import (
	"math"
	"math/rand/v2"
	"reflect"
	"testing"

	"scrivener/api"
	"scrivener/reader"
)

// three tells the ledger of the chapter's examples.
func three() api.Ledger {
	return api.Ledger{Id: 1, W: 2, A: 2, Frags: []api.Frag{frag(1, firsts(7, 8, 9)...)}}
}

// fresh tells a fetch of the entry 2 of the ledger, with the tag 5, that begins at the tick 3.
func fresh(t *testing.T, l api.Ledger) api.Fetch {
	t.Helper()
	x := begins(t, l, 2, 5, 3)
	if x.e != api.OK {
		t.Fatalf("%+v may not be", l)
	}
	return x.f
}

// wide tells a fetch of an entry that stands on the places 7.1, 8.1 and 9.1, of which one is asked.
func wide(t *testing.T, i int) api.Fetch {
	t.Helper()
	f := fresh(t, api.Ledger{Id: 1, W: 3, A: 2, Frags: []api.Frag{frag(1, firsts(9, 7, 8)...)}})
	if !alike(f.Set, firsts(7, 8, 9)) {
		t.Fatalf("%+v", f.Set)
	}
	f.At = i
	return f
}

// resp tells an answer to the tag 5 about the entry 2 of the ledger 1.
func resp(code int, from api.Place) api.Resp {
	r := api.Resp{From: from, Kind: api.ReqGet, Code: code, Ledger: 1, N: 2, Epoch: 5}
	if code == api.RespOk {
		r.Body = []byte("x")
	}
	return r
}

// isAsked looks whether those places are asked for the entry 2 of the ledger 1, with the tag 5, and no others.
func isAsked(t *testing.T, reqs []api.Req, to ...api.Place) {
	t.Helper()
	var l []api.Req
	for _, p := range to {
		l = append(l, api.Req{To: p, Kind: api.ReqGet, Ledger: 1, N: 2, Epoch: 5})
	}
	if !alike(reqs, l) {
		t.Errorf("asked: %+v\nnot    %+v", reqs, l)
	}
}

// stays looks whether a fetch is as it was.
func stays(t *testing.T, f, was api.Fetch) {
	t.Helper()
	if !alike(f, was) {
		t.Errorf("%+v, not as it was: %+v", f, was)
	}
}

// aside looks whether an answer changes nothing, and nothing is asked.
func aside(t *testing.T, f api.Fetch, r api.Resp) {
	t.Helper()
	x := takes(t, f, 99, r)
	stays(t, x.f, f)
	isAsked(t, x.reqs)
}

// passes looks whether a fetch has gone on to a place, by its number, at a tick, and asks it.
func passes(t *testing.T, x told, was api.Fetch, to int, now uint64) {
	t.Helper()
	was.At, was.Since = to, now
	stays(t, x.f, was)
	isAsked(t, x.reqs, was.Set[to])
}

// The examples of the chapter.
func TestExamples(t *testing.T) {
	x := begins(t, three(), 2, 5, 3)
	isAsked(t, x.reqs, at(8, 1))
	x = takes(t, x.f, 3, resp(api.RespNone, at(9, 1)))
	isAsked(t, x.reqs)
	x = takes(t, x.f, 3, resp(api.RespNone, at(8, 1)))
	isAsked(t, x.reqs, at(9, 1))
	x = ticks(t, x.f, 5)
	isAsked(t, x.reqs)
	x = ticks(t, x.f, 6)
	isAsked(t, x.reqs, at(8, 1))
	if x.f.Done != 0 {
		t.Error("done")
	}
	x = takes(t, x.f, 6, resp(api.RespOk, at(9, 1)))
	isAsked(t, x.reqs)
	if x.f.Done != 1 || string(x.f.Body) != "x" {
		t.Errorf("%+v", x.f)
	}
}

// P17.1: a fetch of an entry asks the first place of the entry's write set.
func TestNew(t *testing.T) {
	l := api.Ledger{Id: top, W: 2, A: 1, Frags: []api.Frag{frag(1, at(15, top), at(1, 1), at(2, 7)), frag(5, firsts(3, 4)...), frag(9, firsts(6, 7)...)}}
	sets := [][]api.Place{nil,
		{at(15, top), at(1, 1)}, {at(1, 1), at(2, 7)}, {at(2, 7), at(15, top)}, {at(15, top), at(1, 1)},
		firsts(3, 4), firsts(4, 3), firsts(3, 4), firsts(4, 3)}
	for n := uint64(1); n <= 8; n++ {
		for _, tag := range []uint64{0, 1, 5, 1 << 60, math.MaxUint64} {
			for _, now := range []uint64{0, 3, math.MaxUint64} {
				for last := uint64(0); last <= 8; last++ {
					l.Closed, l.Last = 0, 0
					if last > 0 {
						l.Closed, l.Last = 1, last
					}
					x := begins(t, l, n, tag, now)
					want := told{
						f:    api.Fetch{Ledger: top, N: n, Set: sets[n], Since: now, Tag: tag},
						reqs: []api.Req{{To: sets[n][0], Kind: api.ReqGet, Ledger: top, N: n, Epoch: tag}},
					}
					if last > 0 && n > last {
						want = told{e: api.ErrArg}
					}
					if !alike(x, want) {
						t.Fatalf("%d of %d: %+v, not %+v", n, last, x, want)
					}
				}
			}
		}
	}
}

// P17.1: ledgers that may not be, and entries that they have not.
func TestNoNew(t *testing.T) {
	refused := func(name string, l api.Ledger, n uint64) {
		t.Helper()
		if x := begins(t, l, n, 5, 3); !alike(x, told{e: api.ErrArg}) || !reader.Same(x.f, api.Fetch{}) || x.reqs != nil {
			t.Errorf("%s, %d: %+v", name, n, x)
		}
	}
	for name, does := range map[string]func(l *api.Ledger){
		"none":            func(l *api.Ledger) { *l = api.Ledger{} },
		"no Id":           func(l *api.Ledger) { l.Id = 0 },
		"Id too great":    func(l *api.Ledger) { l.Id = top + 1 },
		"half closed":     func(l *api.Ledger) { l.Closed = 2 },
		"closed, no end":  func(l *api.Ledger) { l.Closed, l.Last = 1, 0 },
		"closed, too far": func(l *api.Ledger) { l.Closed, l.Last = 1, 9 },
		"open, with end":  func(l *api.Ledger) { l.Last = 8 },
		"no W":            func(l *api.Ledger) { l.W, l.A = 0, 0 },
		"W too great":     func(l *api.Ledger) { l.W = 4 },
		"no A":            func(l *api.Ledger) { l.A = 0 },
		"A above W":       func(l *api.Ledger) { l.A = 3 },
		"no fragments":    func(l *api.Ledger) { l.Frags = nil },
		"begins at 2":     func(l *api.Ledger) { l.Frags[0].First = 2 },
		"First twice":     func(l *api.Ledger) { l.Frags = append(l.Frags, l.Frags[0]) },
		"First too great": func(l *api.Ledger) { l.Frags = append(l.Frags, frag(10, firsts(7, 8)...)) },
		"node twice":      func(l *api.Ledger) { l.Frags[0].Bookies[2] = at(7, 2) },
		"no place":        func(l *api.Ledger) { l.Frags[0].Bookies[1] = at(8, 0) },
		"no node":         func(l *api.Ledger) { l.Frags[0].Bookies[1] = at(16, 1) },
	} {
		for n := range uint64(10) {
			l := three()
			does(&l)
			refused(name, l, n)
		}
	}
	for _, n := range []uint64{0, 9, 10, 1 << 32, 1 << 63, math.MaxUint64} {
		refused("no entry", three(), n)
		l := three()
		l.Closed, l.Last = 1, 8
		refused("closed, no entry", l, n)
	}
}

// whole tells a fetch none of whose fields is zero.
func whole() api.Fetch {
	return api.Fetch{Ledger: 1, N: 2, Set: []api.Place{at(3, 4), at(5, 6)}, At: 7, Since: 8, Tag: 9, Done: 10, Body: []byte{11, 12}}
}

// P17.5: two fetches are the same if each field is, a list by what stands in it.
func TestSame(t *testing.T) {
	same := func(want bool, a, b api.Fetch) {
		t.Helper()
		if reader.Same(a, b) != want || reader.Same(b, a) != want {
			t.Fatalf("%+v, %+v: not %v", a, b, want)
		}
	}
	f := whole()
	same(true, f, twin(f))
	same(true, api.Fetch{}, api.Fetch{Set: []api.Place{}, Body: []byte{}})
	same(false, api.Fetch{}, api.Fetch{Set: []api.Place{{}}})
	same(false, api.Fetch{}, api.Fetch{Body: []byte{0}})
	same(false, api.Fetch{Body: []byte{1}}, api.Fetch{Body: []byte{2}}) // not done, neither
	n := 0
	walk(reflect.ValueOf(&f).Elem(), func(reflect.Value) { n++ })
	for i := range n {
		g, k := twin(f), 0
		walk(reflect.ValueOf(&g).Elem(), func(v reflect.Value) {
			if k == i {
				set(v, 77)
			}
			k++
		})
		same(false, f, g)
	}
	for i := range walk(reflect.ValueOf(f), func(reflect.Value) {}) {
		g := twin(f)
		l := walk(reflect.ValueOf(&g).Elem(), func(reflect.Value) {})[i]
		l.Set(l.Slice(0, l.Len()-1))
		same(false, f, g)
	}
	d := rand.New(rand.NewPCG(17, 1))
	for range 2000 {
		a, _ := drawAny(d)
		b := altered(d, a)
		same(alike(a, b), a, b)
		same(true, b, twin(b))
	}
}

// seen counts what came of calls, by names.
type seen map[string]int

// count counts something that is so.
func (s seen) count(name string, is bool) {
	if is {
		s[name]++
	}
}

// least looks whether each of those came that often.
func (s seen) least(t *testing.T, often map[string]int) {
	t.Helper()
	for name, n := range often {
		if s[name] < n {
			t.Errorf("%s comes %d times", name, s[name])
		}
	}
}

// P17.2 to P17.5: whatever the fetch, and whatever it is told: what the words say. P17.7: at most one place is asked, it is the fetch's, and what is done stays.
func TestDrawn(t *testing.T) {
	d := rand.New(rand.NewPCG(17, 2))
	all := seen{}
	for range 20000 {
		f, l := drawAny(d)
		r, m := drawResp(d, f), drawMove(d, l)
		for range one(d, 0, 0, 0, 0, 1, 2) {
			r = altered(d, r)
			m = altered(d, m)
		}
		now := one(d, 0, d.Uint64N(60), d.Uint64N(60), math.MaxUint64, math.MaxUint64-5)
		for name, x := range map[string]told{"took": takes(t, f, now, r), "ticked": ticks(t, f, now), "moved": moves(t, f, now, m)} {
			all.count(name+", done", x.f.Done == 1 && f.Done != 1)
			all.count(name+", went on", x.f.At > f.At && len(x.reqs) > 0)
			all.count(name+", went round", x.f.At == 0 && f.At > 0 && len(x.reqs) > 0)
			all.count(name+", nothing", alike(x.f, f))
			if len(x.reqs) > 1 || len(x.reqs) == 1 && (x.reqs[0].To != x.f.Set[x.f.At] || x.f.Since != now) {
				t.Fatalf("%s: %+v asks %+v", name, x.f, x.reqs)
			}
			if f.Done == 1 && (!alike(x.f, f) || len(x.reqs) > 0) {
				t.Fatalf("%s: done, but %+v asks %+v", name, x.f, x.reqs)
			}
		}
	}
	for _, name := range []string{"took, done", "took, went on", "took, went round", "took, nothing", "ticked, went on", "ticked, went round", "ticked, nothing", "moved, went round", "moved, nothing"} {
		all.least(t, map[string]int{name: 300})
	}
	for _, name := range []string{"ticked, done", "moved, done"} {
		if all[name] > 0 {
			t.Errorf("%s comes %d times", name, all[name])
		}
	}
}
