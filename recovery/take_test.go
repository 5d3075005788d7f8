package recovery_test

import (
	"bytes"
	"math"
	"testing"

	"scrivener/api"
)

// P16.2: answers to another ledger, or another epoch, are left aside in each phase.
func TestTakeAside(t *testing.T) {
	for _, r := range []api.Recovery{fresh(t, three()), seeking(t), copying(t)} {
		for _, kind := range []int{api.ReqAdd, api.ReqFence, api.ReqGet} {
			for code := -1; code <= 6; code++ {
				for name, does := range map[string]func(x *api.Resp){
					"another ledger": func(x *api.Resp) { x.Ledger = 2 },
					"no ledger":      func(x *api.Resp) { x.Ledger = 0 },
					"a lesser epoch": func(x *api.Resp) { x.Epoch = 4 },
					"a higher epoch": func(x *api.Resp) { x.Epoch = 6 },
					"no epoch":       func(x *api.Resp) { x.Epoch = 0 },
				} {
					for _, p := range firsts(7, 8, 9) {
						x := resp(kind, code, r.N, p)
						x.Body = r.Body
						does(&x)
						if aside(t, r, x); t.Failed() {
							t.Fatal(name)
						}
					}
				}
			}
		}
	}
}

// P16.2: kinds that a recovery asks nothing by, and those that it does not ask in its phase.
func TestTakeOtherKinds(t *testing.T) {
	for phase, r := range map[int]api.Recovery{1: fresh(t, three()), 2: seeking(t), 3: copying(t)} {
		for kind := -1; kind <= 7; kind++ {
			its := kind == api.ReqFence || kind == api.ReqGet && phase > 1 || kind == api.ReqAdd && phase == 3
			for code := -1; code <= 6 && !its; code++ {
				x := resp(kind, code, r.N, at(7, 1))
				x.Body = r.Body
				aside(t, r, x)
			}
		}
	}
}

// P16.2: a place of the last fragment is heard once; what is sure is the greatest that they told, but at most 8.
func TestFence(t *testing.T) {
	l := three()
	l.Frags = append(l.Frags, frag(3, firsts(5, 8, 6, 4)...))
	l.W, l.A = 2, 1
	r := fresh(t, l)
	for _, p := range []api.Place{at(7, 1), at(9, 1), at(3, 1), at(5, 2), at(5, 0), {}} {
		aside(t, r, fenced(p, 4))
	}
	r = after(t, r, fenced(at(8, 1), 4))
	if !alike(r.Heard, firsts(8)) || r.Sure != 4 || r.Phase != 1 || r.Born != 3 || r.Since != 3 {
		t.Errorf("%+v", r)
	}
	for _, sure := range []uint64{0, 4, 5, math.MaxUint64} {
		aside(t, r, fenced(at(8, 1), sure))
	}
	for sure, want := range map[uint64]uint64{0: 4, 3: 4, 4: 4, 5: 5, 7: 7, 8: 8, 9: 8, top: 8, math.MaxUint64: 8} {
		x := after(t, r, fenced(at(6, 1), sure))
		if !alike(x.Heard, firsts(8, 6)) || x.Sure != want || x.Phase != 1 {
			t.Errorf("%d: %+v", sure, x)
		}
	}
}

// P16.2: which entry is the first one that is asked for.
func TestCovered(t *testing.T) {
	for _, c := range []struct{ sure, first, n uint64 }{
		{0, 1, 1}, {0, 2, 2}, {1, 2, 2}, {2, 2, 3}, {3, 2, 4}, {1, 5, 5}, {3, 5, 5}, {4, 5, 5}, {5, 5, 6}, {6, 5, 7}, {7, 5, 8}, {7, 1, 8}, {0, 8, 8},
	} {
		l := three()
		if c.first > 1 {
			l.Frags = append(l.Frags, frag(c.first, firsts(7, 8, 9)...))
		}
		r := fresh(t, l)
		r.None, r.Has, r.Body, r.Bad = firsts(1), firsts(2), []byte{3}, firsts(4)
		r = after(t, r, fenced(at(8, 1), c.sure))
		x := takes(t, r, 20, fenced(at(9, 1), 0))
		isIn(t, x.r, 2, c.n)
		isAsked(t, x.reqs, asksGet(c.n), both(readSet(x.r), firsts(8, 9))...)
		if x.r.Born != 20 || x.r.Since != 20 || len(x.r.None)+len(x.r.Has)+len(x.r.Body)+len(x.r.Bad) > 0 || x.r.Sure != c.sure {
			t.Errorf("%+v: %+v", c, x.r)
		}
	}
}

// P16.2: if no entry is left that may be asked for, it is ended at once.
func TestCoveredEnds(t *testing.T) {
	for _, c := range []struct{ sure, first uint64 }{{8, 1}, {9, 1}, {8, 9}, {0, 9}, {3, 9}, {math.MaxUint64, 4}, {7, 9}} {
		l := three()
		if c.first > 1 {
			l.Frags = append(l.Frags, frag(c.first, firsts(7, 8, 9)...))
		}
		x := takes(t, after(t, fresh(t, l), fenced(at(8, 1), 0)), 20, fenced(at(7, 1), c.sure))
		isIn(t, x.r, 4, 9)
		isEnded(t, x.r, 8)
		if x.reqs != nil || x.r.Born != 20 || x.r.Since != 3 {
			t.Errorf("%+v: %+v, asked %+v", c, x.r, x.reqs)
		}
	}
}

// P16.2: how many places are enough to have fenced.
func TestEnoughFences(t *testing.T) {
	for _, c := range []struct{ w, a, need int }{
		{5, 5, 1}, {5, 4, 2}, {5, 3, 3}, {5, 2, 4}, {5, 1, 5}, {1, 1, 5}, {2, 2, 4}, {2, 1, 5}, {3, 3, 3}, {4, 2, 4},
	} {
		l := api.Ledger{Id: 1, W: c.w, A: c.a, Frags: []api.Frag{frag(1, firsts(1, 2, 3, 4, 5)...)}}
		r := fresh(t, l)
		for i, p := range firsts(1, 2, 3, 4, 5) {
			r = after(t, r, fenced(p, 0), fenced(p, 0))
			if want := 1 + min(1, (i+1)/c.need); r.Phase != want {
				t.Errorf("%d of %d: phase %d by %d", c.a, c.w, r.Phase, i+1)
			}
		}
	}
}

// P16.2: a place that fences in Phase 2 is asked for the entry, alone, if it might have it.
func TestFenceLate(t *testing.T) {
	r := after(t, fresh(t, three()), fenced(at(9, 1), 1), fenced(at(7, 1), 0))
	isIn(t, r, 2, 2)
	x := takes(t, r, 20, fenced(at(8, 1), 5))
	isAsked(t, x.reqs, asksGet(2), at(8, 1))
	isIn(t, x.r, 2, 2)
	if !alike(x.r.Heard, firsts(9, 7, 8)) || x.r.Sure != 5 || x.r.Since != 4 || x.r.Born != 4 {
		t.Errorf("%+v", x.r)
	}
	aside(t, x.r, fenced(at(8, 1), 7))
	r = after(t, fresh(t, three()), fenced(at(9, 1), 1), fenced(at(8, 1), 0))
	x = takes(t, r, 20, fenced(at(7, 1), 5))
	isAsked(t, x.reqs, asksGet(2))
	if !alike(x.r.Heard, firsts(9, 8, 7)) || x.r.Sure != 5 {
		t.Errorf("%+v", x.r)
	}
}

// P16.2: a place that fences in Phase 3 is heard; what it told as sure goes out with what is asked later.
func TestFenceWhenCopying(t *testing.T) {
	r := after(t, fresh(t, three()), fenced(at(9, 1), 1), fenced(at(8, 1), 0), got(2, at(9, 1)))
	x := takes(t, r, 20, fenced(at(7, 1), 6))
	isAsked(t, x.reqs, asksGet(2))
	isIn(t, x.r, 3, 2)
	if !alike(x.r.Heard, firsts(9, 8, 7)) || x.r.Sure != 6 || x.r.Since != 4 {
		t.Errorf("%+v", x.r)
	}
	isAsked(t, ticks(t, x.r, 7).reqs, asksAdd(2, 6), at(8, 1))
	isAsked(t, takes(t, x.r, 7, put(api.RespOk, 2, at(8, 1))).reqs, asksGet(3), firsts(9, 7)...)
}

// P16.2: a fence that was not done is none, whatever else it tells.
func TestNoFence(t *testing.T) {
	for _, r := range []api.Recovery{fresh(t, three()), after(t, fresh(t, three()), fenced(at(9, 1), 1), fenced(at(7, 1), 0))} {
		for _, code := range []int{api.RespFenced, api.RespFull, api.RespNone, api.RespStrange, 5, -1, math.MaxInt, math.MinInt} {
			x := fenced(at(8, 1), 5)
			x.Code = code
			aside(t, r, x)
		}
	}
}

// P16.2: who of the set to read has the entry tells it; then it is asked to be had by the others.
func TestFound(t *testing.T) {
	l := api.Ledger{Id: 1, W: 3, A: 2, Frags: []api.Frag{frag(1, firsts(4, 5, 6, 7, 8)...)}}
	r := after(t, fresh(t, l), fenced(at(4, 1), 0), fenced(at(5, 1), 0), fenced(at(7, 1), 2), fenced(at(8, 1), 0))
	isIn(t, r, 2, 3) // whose set is 6, 7, 8; 6 was not heard
	for _, p := range []api.Place{at(4, 1), at(5, 1), at(9, 1), at(7, 2), {}} {
		aside(t, r, got(3, p))
		aside(t, r, none(3, p))
	}
	for _, n := range []uint64{0, 2, 4, math.MaxUint64} {
		aside(t, r, got(n, at(7, 1)))
		aside(t, r, none(n, at(7, 1)))
	}
	for _, p := range firsts(6, 7, 8) {
		x := takes(t, after(t, r, none(3, at(8, 1))), 20, got(3, p))
		isIn(t, x.r, 3, 3)
		isAsked(t, x.reqs, asksAdd(3, 2), less(firsts(6, 7, 8), []api.Place{p})...)
		want := api.Recovery{Ledger: l, Epoch: 5, Phase: 3, Heard: firsts(4, 5, 7, 8), Sure: 2, N: 3, None: firsts(8), Has: []api.Place{p}, Body: []byte{3}, Frags: l.Frags, Born: 20, Since: 20}
		stays(t, x.r, want)
	}
	x := got(3, at(7, 1))
	x.Body = bytes.Repeat([]byte{9}, 300)
	if y := takes(t, r, 20, x); !bytes.Equal(y.r.Body, x.Body) || !bytes.Equal(y.reqs[1].Body, x.Body) {
		t.Errorf("%+v", y)
	}
	x.Body = nil
	if y := takes(t, r, 20, x); y.r.Phase != 3 || len(y.r.Body) != 0 || len(y.reqs) != 2 {
		t.Errorf("%+v", y)
	}
}

// P16.2: where one is enough, the others are asked all the same, and it goes on.
func TestFoundEnough(t *testing.T) {
	l := three()
	l.A = 1
	r := after(t, fresh(t, l), fenced(at(7, 1), 0), fenced(at(8, 1), 0), fenced(at(9, 1), 0))
	for n := uint64(1); n <= 8; n++ {
		set := readSet(r)
		isIn(t, r, 2, n)
		r = after(t, r, none(n, set[0]))
		x := takes(t, r, 10+n, got(n, set[1]))
		if n < 8 {
			isAsked(t, x.reqs[:1], asksAdd(n, 0), set[0])
			isAsked(t, x.reqs[1:], asksGet(n+1), readSet(x.r)...)
		} else {
			isAsked(t, x.reqs, asksAdd(n, 0), set[0])
		}
		if x.r.Born != 10+n || x.r.Since != 10+n || len(x.r.None)+len(x.r.Has)+len(x.r.Body) > 0 {
			t.Errorf("%d: %+v", n, x.r)
		}
		r = x.r
	}
	isIn(t, r, 4, 9)
	isEnded(t, r, 8)
}

// P16.2: who told the entry may be none of those on which it is to stand.
func TestFoundElsewhere(t *testing.T) {
	l := three()
	l.A = 1
	r := after(t, fresh(t, l), fenced(at(7, 1), 0), fenced(at(8, 1), 0), fenced(at(9, 1), 1))
	r.Frags = append(r.Frags, frag(2, firsts(5, 6)...))
	isIn(t, r, 2, 2)
	aside(t, r, got(2, at(5, 1)))
	x := takes(t, r, 20, got(2, at(8, 1)))
	isIn(t, x.r, 3, 2)
	isAsked(t, x.reqs, asksAdd(2, 1), firsts(5, 6)...)
	aside(t, x.r, got(2, at(8, 1)))
	y := takes(t, x.r, 20, got(2, at(9, 1)))
	isIn(t, y.r, 3, 2)
	if y.reqs != nil || !alike(y.r.Has, firsts(8, 9)) {
		t.Errorf("%+v", y)
	}
	y = takes(t, y.r, 20, put(api.RespOk, 2, at(6, 1)))
	isIn(t, y.r, 2, 3)
	isAsked(t, y.reqs, asksGet(3), firsts(9, 7)...)
}

// P16.2: an entry is none any more if so many that fence have not got it that the others are too few.
func TestMissing(t *testing.T) {
	for _, c := range []struct{ a, need int }{{5, 1}, {4, 2}, {3, 3}, {2, 4}, {1, 5}} {
		l := api.Ledger{Id: 1, W: 5, A: c.a, Frags: []api.Frag{frag(1, firsts(1, 2, 3, 4, 5)...)}}
		r := fresh(t, l)
		for _, p := range firsts(5, 4, 3, 2, 1) {
			r = after(t, r, fenced(p, 3))
		}
		isIn(t, r, 2, 4)
		for i, p := range firsts(2, 3, 1, 5, 4)[:c.need] {
			x := takes(t, r, 20, none(4, p))
			if x.reqs != nil || len(x.r.None) != i+1 || x.r.None[i] != p || (x.r.Phase == 4) != (i+1 == c.need) || x.r.Since != 4 {
				t.Errorf("%d of 5, %d: %+v", c.a, i+1, x)
			}
			r = x.r
			if aside(t, r, none(4, p)); i+1 < c.need && r.Born != 4 {
				t.Errorf("%+v", r)
			}
		}
		isIn(t, r, 4, 4)
		isEnded(t, r, 3)
		if r.Born != 20 {
			t.Errorf("%+v", r)
		}
	}
}

// P16.2: who has not answered the fence may get the entry yet: that it has none says nothing.
func TestMissingUnheard(t *testing.T) {
	l := three()
	l.A = 1
	r := after(t, fresh(t, l), fenced(at(7, 1), 0), fenced(at(8, 1), 0), fenced(at(9, 1), 0))
	r.Heard = firsts(8, 9)
	aside(t, r, none(1, at(7, 1)))
	r = after(t, r, none(1, at(8, 1)))
	isIn(t, r, 2, 1)
	x := takes(t, r, 20, fenced(at(7, 1), 0))
	isAsked(t, x.reqs, asksGet(1), at(7, 1))
	isEnded(t, after(t, x.r, none(1, at(7, 1))), 0)
}

// P16.2: other answers to a get are left aside.
func TestGetAside(t *testing.T) {
	for _, code := range []int{api.RespFenced, api.RespFull, api.RespStrange, 5, -1, math.MaxInt, math.MinInt} {
		for _, p := range []api.Place{at(9, 1), at(8, 1), at(9, 2)} {
			x := got(2, p)
			x.Code = code
			aside(t, seeking(t), x)
			x.Body = []byte{2}
			aside(t, copying(t), x)
		}
	}
	for _, p := range firsts(7, 8, 9) {
		aside(t, copying(t), none(2, p))
		aside(t, seeking(t), put(api.RespOk, 2, p))
		aside(t, seeking(t), put(api.RespFull, 2, p))
	}
}

// P16.2: in Phase 3 who tells the same entry has it, too, once.
func TestFoundAgain(t *testing.T) {
	r := copying(t)
	aside(t, r, got(2, at(9, 1)))
	for _, body := range [][]byte{nil, {}, {3}, {2, 0}, {2, 2}} {
		x := got(2, at(8, 1))
		x.Body = body
		aside(t, r, x)
	}
	for _, n := range []uint64{0, 1, 3, math.MaxUint64} {
		x := got(2, at(8, 1))
		x.N = n
		aside(t, r, x)
	}
	x := takes(t, r, 20, got(2, at(8, 1)))
	isIn(t, x.r, 2, 3)
	isAsked(t, x.reqs, asksGet(3), firsts(9, 7)...)
	for _, p := range []api.Place{at(7, 1), at(5, 1), at(8, 2), {}} {
		x := takes(t, r, 20, got(2, p))
		isIn(t, x.r, 3, 2)
		if x.reqs != nil || !alike(x.r.Has, append(firsts(9), p)) {
			t.Errorf("%+v", x)
		}
		aside(t, x.r, got(2, p))
		aside(t, x.r, put(api.RespOk, 2, p))
	}
}

// P16.2: who takes the entry has it, once; with enough it goes on to the next one.
func TestCopied(t *testing.T) {
	l := api.Ledger{Id: 1, W: 4, A: 3, Frags: []api.Frag{frag(1, firsts(4, 5, 6, 7, 8)...)}}
	r := after(t, fresh(t, l), fenced(at(4, 1), 0), fenced(at(6, 1), 0), fenced(at(8, 1), 6))
	isIn(t, r, 2, 7) // whose set is 5, 6, 7, 8
	r = after(t, r, none(7, at(8, 1)), got(7, at(6, 1)))
	for _, p := range []api.Place{at(4, 1), at(5, 2), at(9, 1), {}} {
		x := after(t, r, put(api.RespOk, 7, p))
		isIn(t, x, 3, 7)
		if !alike(x.Has, append(firsts(6), p)) {
			t.Errorf("%+v", x)
		}
		isIn(t, after(t, x, put(api.RespOk, 7, at(5, 1))), 3, 7)
	}
	for _, n := range []uint64{0, 6, 8, math.MaxUint64} {
		aside(t, r, put(api.RespOk, n, at(8, 1)))
	}
	aside(t, r, put(api.RespOk, 7, at(6, 1)))
	r.Bad = firsts(5)
	x := takes(t, r, 20, put(api.RespOk, 7, at(8, 1)))
	if x.reqs != nil || !alike(x.r.Has, firsts(6, 8)) || x.r.Born != 4 || x.r.Since != 4 {
		t.Errorf("%+v", x)
	}
	aside(t, x.r, put(api.RespOk, 7, at(8, 1)))
	x = takes(t, x.r, 21, put(api.RespOk, 7, at(5, 1)))
	isIn(t, x.r, 2, 8)
	isAsked(t, x.reqs, asksGet(8), firsts(6, 8, 4)...)
	if len(x.r.None)+len(x.r.Has)+len(x.r.Body)+len(x.r.Bad) > 0 || x.r.Born != 21 || x.r.Since != 21 {
		t.Errorf("%+v", x.r)
	}
	r = after(t, x.r, got(8, at(6, 1)), put(api.RespOk, 8, at(4, 1)))
	x = takes(t, r, 22, put(api.RespOk, 8, at(8, 1)))
	isEnded(t, x.r, 8)
	if x.reqs != nil || len(x.r.None)+len(x.r.Has)+len(x.r.Body)+len(x.r.Bad) > 0 || x.r.Born != 22 || x.r.Since != 4 {
		t.Errorf("%+v", x.r)
	}
}

// R6: behind the greatest number there is none up to 8.
func TestCopiedAtTheEnd(t *testing.T) {
	for _, n := range []uint64{7, 8, 9, math.MaxUint64 - 1, math.MaxUint64} {
		r := copying(t)
		r.N = n
		r.Has = writeSet(r)[:1]
		x := after(t, r, put(api.RespOk, n, writeSet(r)[1]))
		if (x.Phase == 2) != (n == 7) || (x.Phase == 4) != (n > 7) {
			t.Errorf("%d: %+v", n, x)
		}
		if n > 7 {
			isEnded(t, x, n)
		}
	}
}

// P16.2: a place that cannot write is bad, if the entry is to stand on it, once.
func TestFull(t *testing.T) {
	l := api.Ledger{Id: 1, W: 3, A: 3, Frags: []api.Frag{frag(1, at(4, 1), at(5, 3), at(6, 1), at(7, 2))}}
	r := after(t, fresh(t, l), fenced(at(4, 1), 0), fenced(at(5, 3), 1), got(2, at(5, 3)))
	if r = after(t, r, fenced(at(6, 1), 0), fenced(at(7, 2), 0), got(2, at(5, 3))); r.Phase != 3 {
		t.Fatalf("%+v", r)
	}
	for _, p := range []api.Place{at(4, 1), at(5, 2), at(5, 4), at(6, 2), at(7, 1), at(9, 1), {}} {
		aside(t, r, put(api.RespFull, 2, p))
	}
	for _, n := range []uint64{0, 1, 3, math.MaxUint64} {
		aside(t, r, put(api.RespFull, n, at(6, 1)))
		aside(t, r, put(api.RespStrange, n, at(6, 2)))
	}
	x := takes(t, r, 20, put(api.RespFull, 2, at(7, 2)))
	if x.reqs != nil || !alike(x.r.Bad, []api.Place{at(7, 2)}) || x.r.Born != 4 || x.r.Since != 4 || x.r.Phase != 3 {
		t.Errorf("%+v", x)
	}
	aside(t, x.r, put(api.RespFull, 2, at(7, 2)))
	x = takes(t, x.r, 20, put(api.RespFull, 2, at(5, 3)))
	if !alike(x.r.Bad, []api.Place{at(7, 2), at(5, 3)}) {
		t.Errorf("%+v", x)
	}
	aside(t, x.r, put(api.RespFull, 2, at(5, 3)))
}

// P16.2: a node with another disk: the place of it on which the entry is to stand is bad, once.
func TestStrange(t *testing.T) {
	r := copying(t)
	r.Frags = append(r.Frags, frag(2, at(4, 1), at(5, 3), at(6, 1)))
	for _, p := range []api.Place{at(6, 1), at(6, 2), at(7, 1), at(8, 2), at(9, 1), {}} {
		aside(t, r, put(api.RespStrange, 2, p))
	}
	for _, serial := range []uint64{0, 1, 2, 3, 4, math.MaxUint64} {
		x := takes(t, r, 20, put(api.RespStrange, 2, at(5, serial))).r
		if !alike(x.Bad, []api.Place{at(5, 3)}) || x.Phase != 3 || x.Born != 4 || x.Since != 4 {
			t.Errorf("%+v", x)
		}
		aside(t, x, put(api.RespStrange, 2, at(5, serial)))
		aside(t, x, put(api.RespFull, 2, at(5, 3)))
		x = takes(t, x, 20, put(api.RespStrange, 2, at(4, serial))).r
		if !alike(x.Bad, []api.Place{at(5, 3), at(4, 1)}) {
			t.Errorf("%+v", x)
		}
	}
}

// P16.2: a place that stands twice is bad once, too; those of a node are, in the set's order.
func TestBadOnce(t *testing.T) {
	l := api.Ledger{Id: 1, W: 5, A: 5, Frags: []api.Frag{frag(1, at(4, 1), at(5, 1), at(4, 1), at(4, 2), at(6, 1))}}
	r := api.Recovery{Ledger: l, Epoch: 5, Phase: 3, N: 1, Frags: l.Frags, Has: firsts(6)}
	x := takes(t, r, 20, put(api.RespFull, 1, at(4, 1))).r
	if !alike(x.Bad, firsts(4)) {
		t.Errorf("%+v", x.Bad)
	}
	x = takes(t, r, 20, put(api.RespStrange, 1, at(4, 1))).r
	if !alike(x.Bad, []api.Place{at(4, 1), at(4, 2)}) {
		t.Errorf("%+v", x.Bad)
	}
}

// P16.2: other answers to an add are left aside.
func TestAddAside(t *testing.T) {
	r := copying(t)
	for _, code := range []int{api.RespFenced, api.RespNone, 5, 6, -1, math.MaxInt, math.MinInt, 1 << 32} {
		for _, p := range []api.Place{at(7, 1), at(8, 1), at(9, 1), at(8, 2)} {
			aside(t, r, put(code, 2, p))
		}
	}
}

// P16.2: a bookie that refuses the epoch is left aside, whatever it was asked.
func TestRefusedAside(t *testing.T) {
	for _, r := range []api.Recovery{fresh(t, three()), seeking(t), copying(t)} {
		for kind := range 6 {
			for n := range uint64(4) {
				for _, p := range []api.Place{at(7, 1), at(8, 1), at(9, 1), at(8, 2)} {
					x := resp(kind, api.RespFenced, n, p)
					x.Sure, x.Body = 7, []byte{2}
					aside(t, r, x)
				}
			}
		}
	}
}

// P16.8: ended, a recovery stays as it is, whatever it is told, and however clocks go.
func TestEndedStays(t *testing.T) {
	r := after(t, copying(t), put(api.RespFull, 2, at(8, 1)), put(api.RespOk, 2, at(8, 1)), none(3, at(7, 1)))
	isEnded(t, r, 2)
	more := whole()
	more.Phase, more.Ledger.Id, more.Epoch = 4, 1, 5
	for _, r := range []api.Recovery{r, more} {
		for kind := range 6 {
			for code := range 6 {
				for _, p := range append(members(r), firsts(1, 7, 8, 9)...) {
					x := resp(kind, code, r.N, p)
					x.Sure, x.Body = 9, r.Body
					aside(t, r, x)
				}
			}
		}
		for _, now := range []uint64{0, 4, 7, 13, 100, math.MaxUint64} {
			x := ticks(t, r, now, firsts(1, 2, 3, 4, 5)...)
			if stays(t, x.r, r); x.reqs != nil {
				t.Errorf("%+v", x.reqs)
			}
		}
	}
}
