package recovery_test

import (
	"math"
	"math/rand/v2"
	"reflect"
	"testing"

	"scrivener/api"
	"scrivener/recovery"
)

// three tells the ledger of the chapter's examples.
func three() api.Ledger {
	return api.Ledger{Id: 1, W: 2, A: 2, Frags: []api.Frag{frag(1, firsts(7, 8, 9)...)}}
}

// fresh tells a recovery of the ledger, of the epoch 5, that begins at the tick 3.
func fresh(t *testing.T, l api.Ledger) api.Recovery {
	t.Helper()
	x := begins(t, l, 5, 3)
	if x.e != api.OK {
		t.Fatalf("%+v may not be", l)
	}
	return x.r
}

// resp tells an answer to the epoch 5 about the ledger 1.
func resp(kind, code int, n uint64, from api.Place) api.Resp {
	return api.Resp{From: from, Kind: kind, Code: code, Ledger: 1, N: n, Epoch: 5}
}

// fenced tells an answer to a fence: so much is sure.
func fenced(from api.Place, sure uint64) api.Resp {
	x := resp(api.ReqFence, api.RespOk, 0, from)
	x.Sure = sure
	return x
}

// got tells an answer to a get: there is the entry, of one byte, its number.
func got(n uint64, from api.Place) api.Resp {
	x := resp(api.ReqGet, api.RespOk, n, from)
	x.Body = []byte{byte(n)}
	return x
}

// none tells an answer to a get: there is no entry.
func none(n uint64, from api.Place) api.Resp { return resp(api.ReqGet, api.RespNone, n, from) }

// put tells an answer to an add.
func put(code int, n uint64, from api.Place) api.Resp { return resp(api.ReqAdd, code, n, from) }

// after has a recovery hear answers, all at the tick 4.
func after(t *testing.T, r api.Recovery, answers ...api.Resp) api.Recovery {
	t.Helper()
	for _, a := range answers {
		r = takes(t, r, 4, a).r
	}
	return r
}

// seeking tells a recovery of the ledger of the examples that all places have answered: it asks for the entry 2.
func seeking(t *testing.T) api.Recovery {
	t.Helper()
	return after(t, fresh(t, three()), fenced(at(7, 1), 0), fenced(at(9, 1), 1), fenced(at(8, 1), 0))
}

// copying tells a recovery of the ledger of the examples that node 9 has told the entry 2.
func copying(t *testing.T) api.Recovery {
	t.Helper()
	return after(t, seeking(t), got(2, at(9, 1)))
}

// stays looks whether a recovery is as it was.
func stays(t *testing.T, r, was api.Recovery) {
	t.Helper()
	if !alike(r, was) {
		t.Errorf("%+v, not as it was: %+v", r, was)
	}
}

// aside looks whether an answer changes nothing, and nothing is asked.
func aside(t *testing.T, r api.Recovery, a api.Resp) {
	t.Helper()
	x := takes(t, r, 99, a)
	stays(t, x.r, r)
	if len(x.reqs) > 0 {
		t.Errorf("%+v: asked %+v", a, x.reqs)
	}
}

// isAsked looks what is asked: of the places, of each the same.
func isAsked(t *testing.T, reqs []api.Req, what api.Req, to ...api.Place) {
	t.Helper()
	var l []api.Req
	for _, p := range to {
		what.To, what.Ledger, what.Epoch = p, 1, 5
		l = append(l, what)
	}
	if !alike(reqs, l) {
		t.Errorf("asked: %+v\nnot    %+v", reqs, l)
	}
}

// What is asked in the three phases, but for the place; adds are of an entry of one byte, its number.
var asksFence = api.Req{Kind: api.ReqFence}

func asksGet(n uint64) api.Req { return api.Req{Kind: api.ReqGet, N: n} }
func asksAdd(n, sure uint64) api.Req {
	return api.Req{Kind: api.ReqAdd, N: n, Sure: sure, Body: []byte{byte(n)}}
}

// isIn looks in which phase a recovery is, at which entry.
func isIn(t *testing.T, r api.Recovery, phase int, n uint64) {
	t.Helper()
	if r.Phase != phase || r.N != n {
		t.Errorf("phase %d of %d, not %d of %d", r.Phase, r.N, phase, n)
	}
}

// isEnded looks whether a recovery is ended with that last entry.
func isEnded(t *testing.T, r api.Recovery, last uint64) {
	t.Helper()
	if n, ok := ends(t, r); !ok || n != last {
		t.Errorf("ended with %d, %v, not %d: %+v", n, ok, last, r)
	}
}

// The examples of the chapter.
func TestExamples(t *testing.T) {
	x := begins(t, three(), 5, 3)
	isAsked(t, x.reqs, asksFence, firsts(7, 8, 9)...)
	x = takes(t, x.r, 4, fenced(at(7, 1), 0))
	isAsked(t, x.reqs, asksFence)
	isIn(t, x.r, 1, 0)
	x = takes(t, x.r, 4, fenced(at(9, 1), 1))
	isAsked(t, x.reqs, asksGet(2), at(9, 1))
	isIn(t, x.r, 2, 2)
	x = takes(t, x.r, 4, got(2, at(9, 1)))
	isAsked(t, x.reqs, asksAdd(2, 1), at(8, 1))
	isIn(t, x.r, 3, 2)
	x = takes(t, x.r, 4, put(api.RespOk, 2, at(8, 1)))
	isAsked(t, x.reqs, asksGet(3), firsts(9, 7)...)
	isIn(t, x.r, 2, 3)
	if _, ok := ends(t, x.r); ok {
		t.Error("it is ended")
	}
	x = takes(t, x.r, 4, none(3, at(7, 1)))
	isAsked(t, x.reqs, asksGet(3))
	isEnded(t, x.r, 2)
}

// P16.1: a recovery of a ledger that is open asks all places of its last fragment.
func TestNew(t *testing.T) {
	many := api.Ledger{Id: top, W: 5, A: 1}
	for i := range uint64(6) {
		many.Frags = append(many.Frags, frag(i+1, at(1, top), at(2, 1), at(3, 7), at(15, 1), at(4, 9+i)))
	}
	for _, l := range []api.Ledger{three(), many, {Id: 3, W: 1, A: 1, Frags: []api.Frag{frag(1, at(9, 9)), frag(9, at(8, 1), at(1, 1))}}} {
		for _, epoch := range []uint64{1, 2, top} {
			for _, now := range []uint64{0, 3, math.MaxUint64} {
				x := begins(t, l, epoch, now)
				want := api.Recovery{Ledger: l, Epoch: epoch, Phase: 1, Frags: l.Frags, Born: now, Since: now}
				var reqs []api.Req
				for _, p := range l.Frags[len(l.Frags)-1].Bookies {
					reqs = append(reqs, api.Req{To: p, Kind: api.ReqFence, Ledger: l.Id, Epoch: epoch})
				}
				if x.e != api.OK || !alike(x.r, want) || !alike(x.reqs, reqs) {
					t.Errorf("%+v, %+v, %d", x.r, x.reqs, x.e)
				}
			}
		}
	}
}

// P16.1: a ledger that may not be, or is closed, and epochs that may not be.
func TestNoNew(t *testing.T) {
	refused := func(name string, l api.Ledger, epoch uint64) {
		t.Helper()
		if x := begins(t, l, epoch, 3); x.e != api.ErrArg || !alike(x.r, api.Recovery{}) || x.reqs != nil {
			t.Errorf("%s: %+v, %+v, %d", name, x.r, x.reqs, x.e)
		}
	}
	for name, does := range map[string]func(l *api.Ledger){
		"no Id":            func(l *api.Ledger) { l.Id = 0 },
		"Id too great":     func(l *api.Ledger) { l.Id = top + 1 },
		"closed":           func(l *api.Ledger) { l.Closed = 1 },
		"closed, with end": func(l *api.Ledger) { l.Closed, l.Last = 1, 5 },
		"half closed":      func(l *api.Ledger) { l.Closed = 2 },
		"open, with end":   func(l *api.Ledger) { l.Last = 1 },
		"no W":             func(l *api.Ledger) { l.W, l.A = 0, 0 },
		"W too great":      func(l *api.Ledger) { l.W = 4 },
		"no A":             func(l *api.Ledger) { l.A = 0 },
		"A above W":        func(l *api.Ledger) { l.A = 3 },
		"no fragments":     func(l *api.Ledger) { l.Frags = nil },
		"begins at 2":      func(l *api.Ledger) { l.Frags[0].First = 2 },
		"First twice":      func(l *api.Ledger) { l.Frags = append(l.Frags, l.Frags[0]) },
		"First too great":  func(l *api.Ledger) { l.Frags = append(l.Frags, frag(10, firsts(7, 8)...)) },
		"node twice":       func(l *api.Ledger) { l.Frags[0].Bookies[2] = at(7, 2) },
		"no place":         func(l *api.Ledger) { l.Frags[0].Bookies[1] = at(8, 0) },
		"no node":          func(l *api.Ledger) { l.Frags[0].Bookies[1] = at(16, 1) },
	} {
		l := three()
		does(&l)
		for _, epoch := range []uint64{0, 1, top} {
			refused(name, l, epoch)
		}
	}
	for _, epoch := range []uint64{0, top + 1, 1 << 63, math.MaxUint64} {
		refused("epoch", three(), epoch)
	}
}

// P16.4: only in Phase 4 there is an end: one less than N, with the fragments by what was copied.
func TestEnded(t *testing.T) {
	row := []api.Frag{frag(1, firsts(7, 8)...), frag(2, firsts(5, 6)...)}
	for phase := -2; phase <= 6; phase++ {
		for n := uint64(0); n <= 10; n++ {
			r := api.Recovery{Ledger: three(), Phase: phase, N: n, Frags: row, Sure: 1}
			last, ok := ends(t, r)
			if ok != (phase == 4) || ok && last+1 != n || !ok && last != 0 {
				t.Errorf("phase %d, %d: %d, %v", phase, n, last, ok)
			}
		}
	}
	ends(t, api.Recovery{Phase: 4, N: math.MaxUint64})
	ends(t, api.Recovery{})
}

// whole tells a recovery none of whose fields is zero.
func whole() api.Recovery {
	return api.Recovery{
		Ledger: api.Ledger{Id: 1, W: 2, A: 3, Frags: []api.Frag{frag(4, at(5, 6), at(7, 8)), frag(9, at(10, 11))}, Closed: 12, Last: 13},
		Epoch:  14, Phase: 15, Heard: []api.Place{at(16, 17), at(18, 19)}, Sure: 20, N: 21,
		None: []api.Place{at(22, 23), at(24, 25)}, Has: []api.Place{at(26, 27), at(28, 29)}, Body: []byte{30, 31},
		Frags: []api.Frag{frag(32, at(33, 34), at(35, 36)), frag(37, at(38, 39))}, Bad: []api.Place{at(40, 41), at(42, 43)}, Born: 44, Since: 45,
	}
}

// P16.5: two recoveries are the same if each field is, a list by what stands in it.
func TestSame(t *testing.T) {
	same := func(want bool, a, b api.Recovery) {
		t.Helper()
		if recovery.Same(a, b) != want || recovery.Same(b, a) != want {
			t.Fatalf("%+v, %+v: not %v", a, b, want)
		}
	}
	r := whole()
	same(true, r, twin(r))
	empty := []api.Place{}
	same(true, api.Recovery{}, api.Recovery{Ledger: api.Ledger{Frags: []api.Frag{}}, Heard: empty, None: empty, Has: empty, Body: []byte{}, Frags: []api.Frag{}, Bad: empty})
	same(true, api.Recovery{Frags: []api.Frag{{}}}, api.Recovery{Frags: []api.Frag{frag(0, empty...)}})
	same(false, api.Recovery{Frags: []api.Frag{{}}}, api.Recovery{})
	same(false, api.Recovery{Ledger: api.Ledger{Frags: []api.Frag{{}}}}, api.Recovery{Frags: []api.Frag{{}}})
	same(false, api.Recovery{Has: []api.Place{{}}}, api.Recovery{None: []api.Place{{}}})
	same(false, api.Recovery{Body: []byte{0}}, api.Recovery{})
	n := 0
	walk(reflect.ValueOf(&r).Elem(), func(reflect.Value) { n++ })
	for i := range n {
		q, k := twin(r), 0
		walk(reflect.ValueOf(&q).Elem(), func(v reflect.Value) {
			if k == i {
				set(v, 77)
			}
			k++
		})
		same(false, r, q)
	}
	for i := range walk(reflect.ValueOf(r), func(reflect.Value) {}) {
		q := twin(r)
		l := walk(reflect.ValueOf(&q).Elem(), func(reflect.Value) {})[i]
		l.Set(l.Slice(0, l.Len()-1))
		same(false, r, q)
	}
	d := rand.New(rand.NewPCG(16, 1))
	for range 2000 {
		a := drawAny(d)
		b := altered(d, a)
		same(alike(a, b), a, b)
		same(true, b, twin(b))
	}
}

// seen counts what came of calls, by names.
type seen map[string]int

// count counts something that is so.
func (s seen) count(name string, is bool) {
	if is {
		s[name]++
	}
}

// least looks whether each of those came that often.
func (s seen) least(t *testing.T, often map[string]int) {
	t.Helper()
	for name, n := range often {
		if s[name] < n {
			t.Errorf("%s comes %d times", name, s[name])
		}
	}
}

// P16.2 to P16.4: whatever the recovery, and whatever it is told: what the words say.
func TestDrawn(t *testing.T) {
	d := rand.New(rand.NewPCG(16, 2))
	all := seen{}
	for range 20000 {
		r := drawAny(d)
		a := drawResp(d, r)
		for range one(d, 0, 0, 0, 0, 1, 2) {
			a = altered(d, a)
		}
		now := one(d, 0, d.Uint64N(50), d.Uint64N(50), math.MaxUint64, math.MaxUint64-5)
		x := takes(t, r, now, a).r
		ends(t, r)
		all.count("heard", len(x.Heard) > len(r.Heard))
		all.count("surer", x.Sure > r.Sure)
		all.count("fenced", r.Phase == 1 && x.Phase == 2)
		all.count("fenced, ended", r.Phase == 1 && x.Phase == 4)
		all.count("none", len(x.None) > len(r.None))
		all.count("none any more", r.Phase == 2 && x.Phase == 4)
		all.count("found", r.Phase == 2 && x.Phase == 3)
		all.count("found, enough", r.Phase == 2 && x.Phase == 2 && x.N > r.N)
		all.count("has", x.Phase == 3 && x.N == r.N && len(x.Has) > len(r.Has) && r.Phase == 3)
		all.count("enough", r.Phase == 3 && x.Phase == 2)
		all.count("enough, ended", r.Phase == 3 && x.Phase == 4)
		all.count("bad", len(x.Bad) > len(r.Bad))
		y := ticks(t, r, now, drawRow(d, 0)...)
		all.count("asked again", len(y.reqs) > 0)
		all.count("another fragment", len(y.r.Frags) > len(r.Frags))
		all.count("another one in its place", len(y.r.Frags) == len(r.Frags) && !alike(y.r.Frags, r.Frags))
		all.count("renewed, enough", r.Phase == 3 && y.r.Phase == 2)
		all.count("not renewed", len(y.r.Bad) < len(r.Bad) && alike(y.r.Frags, r.Frags))
	}
	for _, name := range []string{"heard", "surer", "fenced", "none", "none any more", "found", "found, enough", "has", "enough", "enough, ended", "bad", "asked again", "another fragment", "another one in its place", "renewed, enough", "not renewed"} {
		all.least(t, map[string]int{name: 80})
	}
	all.least(t, map[string]int{"fenced, ended": 20})
}
