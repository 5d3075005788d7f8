package recovery_test

import (
	"math"
	"testing"

	"scrivener/api"
)

// P16.3: what was asked three ticks ago, or more, is asked anew of those whose answer is still to come.
func TestAgain(t *testing.T) {
	two := after(t, fresh(t, three()), fenced(at(9, 1), 1), fenced(at(8, 1), 0))
	for name, c := range map[string]struct {
		r    api.Recovery
		what api.Req
		to   []api.Place
	}{
		"fences, none heard": {fresh(t, three()), asksFence, firsts(7, 8, 9)},
		"fences, one heard":  {after(t, fresh(t, three()), fenced(at(8, 1), 2)), asksFence, firsts(7, 9)},
		"gets":               {two, asksGet(2), firsts(8, 9)},
		"gets, one has none": {after(t, fresh(t, api.Ledger{Id: 1, W: 3, A: 1, Frags: three().Frags}), fenced(at(7, 1), 1), fenced(at(8, 1), 0), fenced(at(9, 1), 0), none(2, at(9, 1))), asksGet(2), firsts(8, 7)},
		"adds":               {copying(t), asksAdd(2, 1), firsts(8)},
		"adds, of three":     {after(t, fresh(t, api.Ledger{Id: 1, W: 3, A: 3, Frags: three().Frags}), fenced(at(8, 1), 1), got(2, at(8, 1))), asksAdd(2, 1), firsts(9, 7)},
	} {
		c.r.Born, c.r.Since = 18, 20
		for _, now := range []uint64{0, 17, 20, 21, 22} {
			x := ticks(t, c.r, now, firsts(5, 6)...)
			if stays(t, x.r, c.r); x.reqs != nil {
				t.Errorf("%s, at %d: asked %+v", name, now, x.reqs)
			}
		}
		for _, now := range []uint64{23, 24, 26} {
			x := ticks(t, c.r, now, firsts(5, 6)...)
			isAsked(t, x.reqs, c.what, c.to...)
			want := twin(c.r)
			want.Since = now
			stays(t, x.r, want)
		}
	}
}

// P16.3: in the phases ahead of the third nothing is bad, however long it takes.
func TestPatienceElsewhere(t *testing.T) {
	for _, r := range []api.Recovery{fresh(t, three()), seeking(t)} {
		for _, now := range []uint64{12, 13, 14, 100, math.MaxUint64} {
			r.Bad = nil
			x := ticks(t, r, now, firsts(5, 6)...)
			want := twin(r)
			want.Since = now
			stays(t, x.r, want)
			r.Bad = firsts(7, 8, 9)
			x = ticks(t, r, now, firsts(5, 6)...)
			want.Bad = r.Bad
			stays(t, x.r, want)
		}
	}
}

// P16.3: a place that has not taken the entry for nine ticks is replaced by a known one.
func TestPatience(t *testing.T) {
	r := copying(t) // of 9.1, which has it, and 8.1
	r.Born, r.Since = 20, 26
	for _, now := range []uint64{0, 19, 20, 28} {
		x := ticks(t, r, now, firsts(5, 6)...)
		if stays(t, x.r, r); x.reqs != nil {
			t.Errorf("at %d: asked %+v", now, x.reqs)
		}
	}
	for _, now := range []uint64{29, 30, math.MaxUint64} {
		x := ticks(t, r, now, firsts(9, 7, 5, 6)...)
		want := twin(r)
		want.Frags = append(want.Frags, frag(2, firsts(7, 5, 9)...))
		want.Born, want.Since = now, now
		stays(t, x.r, want)
		isAsked(t, x.reqs, asksAdd(2, 1), firsts(7, 5)...)
	}
}

// P16.3: where there is no known one it goes on with those that are there, and has as much patience again.
func TestPatienceInVain(t *testing.T) {
	r := after(t, fresh(t, api.Ledger{Id: 1, W: 2, A: 2, Frags: []api.Frag{frag(1, firsts(7, 8)...)}}), fenced(at(7, 1), 0), got(1, at(7, 1)))
	isIn(t, r, 3, 1)
	r.Born, r.Since = 20, 27
	for _, known := range [][]api.Place{nil, firsts(8), firsts(7, 8)} {
		x := ticks(t, r, 29, known...)
		want := twin(r)
		want.Born = 29
		stays(t, x.r, want)
		isAsked(t, x.reqs, api.Req{})
		want.Since = 30
		want.Born = 30
		x = ticks(t, r, 30, known...)
		stays(t, x.r, want)
		isAsked(t, x.reqs, asksAdd(1, 0), at(8, 1))
		y := ticks(t, x.r, 38, firsts(5)...)
		isAsked(t, y.reqs, asksAdd(1, 0), at(8, 1))
		y = ticks(t, y.r, 39, firsts(5)...)
		isAsked(t, y.reqs, asksAdd(1, 0), at(5, 1))
		if !alike(y.r.Frags, []api.Frag{frag(1, firsts(7, 5)...)}) {
			t.Errorf("%+v", y.r.Frags)
		}
	}
}

// P16.3: what is bad is replaced, or left out, at the next tick, whenever that is; nothing more comes in its place than there was.
func TestRenew(t *testing.T) {
	for name, c := range map[string]struct {
		first      uint64 // of the ledger's second fragment; 0: there is none
		bad, known []api.Place
		row        []api.Place
		asked      []api.Place
	}{
		"replaced":             {0, firsts(8), firsts(6), firsts(7, 6, 9), firsts(7, 6)},
		"both replaced":        {0, firsts(8, 9), firsts(6, 5), firsts(7, 6, 5), firsts(7, 6)},
		"one replaced":         {0, firsts(8, 9), firsts(6), firsts(7, 6), firsts(7, 6)},
		"left out":             {0, firsts(8), nil, firsts(7, 9), firsts(7, 9)},
		"left out, but for W":  {0, firsts(9, 8), firsts(7, 8, 9), firsts(7, 9), firsts(7, 9)},
		"known, no more than":  {0, firsts(8), firsts(6, 5, 4), firsts(7, 6, 9), firsts(7, 6)},
		"its next disk":        {0, firsts(8), []api.Place{at(8, 2), at(6, 1)}, []api.Place{at(7, 1), at(8, 2), at(9, 1)}, []api.Place{at(7, 1), at(8, 2)}},
		"in the place of one":  {2, firsts(8), firsts(6), firsts(7, 6, 9), firsts(7, 6)},
		"one of those has it":  {2, firsts(7), firsts(6), firsts(6, 8, 9), firsts(6, 8)},
		"of some other places": {0, append(firsts(8), at(9, 2)), firsts(6), firsts(7, 6, 9), firsts(7, 6)},
	} {
		l := three()
		if c.first > 0 {
			l.Frags = append(l.Frags, frag(c.first, firsts(7, 8, 9)...))
		}
		r := after(t, fresh(t, l), fenced(at(7, 1), 1), fenced(at(8, 1), 1), fenced(at(9, 1), 1))
		r = after(t, r, got(2, readSet(r)[1]))
		isIn(t, r, 3, 2)
		r.Has, r.Bad, r.Born, r.Since = firsts(3), c.bad, 20, 20
		for _, now := range []uint64{0, 20, 21, 28} {
			x := ticks(t, r, now, c.known...)
			want := twin(r)
			want.Frags = []api.Frag{frag(1, firsts(7, 8, 9)...), frag(2, c.row...)}
			want.Bad, want.Born, want.Since = nil, now, now
			if stays(t, x.r, want); t.Failed() {
				t.Fatal(name)
			}
			isAsked(t, x.reqs, asksAdd(2, 1), c.asked...)
		}
	}
}

// P16.3: if nothing comes of it, nothing is bad any more; and it asks anew only if that is due.
func TestNotRenewed(t *testing.T) {
	for name, c := range map[string]struct{ bad, known []api.Place }{
		"none known":        {firsts(8), nil},
		"bad ones known":    {firsts(8), firsts(8)},
		"those there known": {firsts(8), firsts(7, 8)},
		"of another node":   {[]api.Place{at(5, 1)}, firsts(6)},
		"of another disk":   {[]api.Place{at(8, 2)}, firsts(6)},
	} {
		l := api.Ledger{Id: 1, W: 2, A: 2, Frags: []api.Frag{frag(1, firsts(7, 8)...)}}
		r := after(t, fresh(t, l), fenced(at(7, 1), 1), got(2, at(7, 1)))
		r.Bad, r.Born, r.Since = c.bad, 20, 20
		for _, now := range []uint64{0, 20, 22, 23, 28} {
			x := ticks(t, r, now, c.known...)
			want := twin(r)
			want.Bad = nil
			if now >= 23 {
				want.Since = now
				isAsked(t, x.reqs, asksAdd(2, 1), at(8, 1))
			} else {
				isAsked(t, x.reqs, api.Req{})
			}
			if stays(t, x.r, want); t.Failed() {
				t.Fatal(name)
			}
		}
	}
}

// P16.3: there are at most six fragments: one more is none, one in the place of another one is.
func TestMostFrags(t *testing.T) {
	for size := 1; size <= 6; size++ {
		l := api.Ledger{Id: 1, W: 2, A: 2}
		for first := range uint64(size) {
			l.Frags = append(l.Frags, frag(first+1, firsts(7, 8)...))
		}
		for _, n := range []uint64{uint64(size), uint64(size) + 1} {
			r := after(t, fresh(t, l), fenced(at(8, 1), n-1), got(n, at(8, 1)))
			isIn(t, r, 3, n)
			r.Bad = firsts(7)
			x := ticks(t, r, 5, firsts(6)...)
			want := twin(r)
			want.Bad = nil
			if n == uint64(size) || size < 6 {
				want.Frags = append(want.Frags[:n-1:n-1], frag(n, firsts(6, 8)...))
				want.Born, want.Since = 5, 5
				isAsked(t, x.reqs, asksAdd(n, n-1), at(6, 1))
			} else {
				isAsked(t, x.reqs, api.Req{})
			}
			stays(t, x.r, want)
		}
	}
}

// P16.3: behind the entry's fragment, renewed, there are none.
func TestRenewDropsBehind(t *testing.T) {
	r := copying(t)
	for i := range uint64(5) {
		r.Frags = append(r.Frags, frag(3+i, firsts(4, 5)...))
	}
	r.Bad = firsts(8)
	x := ticks(t, r, 5, firsts(6)...)
	if !alike(x.r.Frags, []api.Frag{frag(1, firsts(7, 8, 9)...), frag(2, firsts(7, 6, 9)...)}) {
		t.Errorf("%+v", x.r.Frags)
	}
}

// P16.3: if enough of the fragment, renewed, have the entry already, it goes on.
func TestRenewedEnough(t *testing.T) {
	l := api.Ledger{Id: 1, W: 1, A: 1, Frags: []api.Frag{frag(1, firsts(7, 8)...)}}
	r := after(t, fresh(t, l), fenced(at(7, 1), 1), fenced(at(8, 1), 1))
	isIn(t, r, 2, 2)
	r.Frags = append(r.Frags, frag(2, firsts(5)...))
	r = after(t, r, got(2, at(8, 1)))
	isIn(t, r, 3, 2)
	r.Since = 0
	for _, now := range []uint64{5, 12, 13, 20} { // bad as it was said, or by Patience
		if now < 13 {
			r.Bad = firsts(5)
		} else {
			r.Bad = nil
		}
		x := ticks(t, r, now, firsts(8, 6)...)
		isIn(t, x.r, 2, 3)
		isAsked(t, x.reqs, asksGet(3), firsts(7)...)
		if !alike(x.r.Frags, []api.Frag{frag(1, firsts(7, 8)...), frag(2, firsts(8)...)}) || x.r.Born != now || x.r.Since != now || x.r.Bad != nil || x.r.Has != nil {
			t.Errorf("%+v", x.r)
		}
	}
	r.N, r.Frags[1].First, r.Bad = 8, 8, firsts(5)
	x := ticks(t, r, 6, firsts(8)...)
	isEnded(t, x.r, 8)
	if x.r.Since != 6 || x.reqs != nil {
		t.Errorf("%+v", x)
	}
}

// P16.3: nine ticks have those that lack the entry be bad behind those that were, each once.
func TestPatienceAdds(t *testing.T) {
	l := api.Ledger{Id: 1, W: 4, A: 4, Frags: []api.Frag{frag(1, firsts(1, 2, 3, 4)...)}}
	r := after(t, fresh(t, l), fenced(at(2, 1), 0), got(1, at(2, 1)), put(api.RespOk, 1, at(3, 1)), put(api.RespFull, 1, at(4, 1)))
	isIn(t, r, 3, 1)
	x := ticks(t, r, 12, firsts(5)...) // 4.1 alone is bad
	isAsked(t, x.reqs, asksAdd(1, 0), firsts(1, 5)...)
	x = ticks(t, r, 13, firsts(5)...) // 1.1 is, too, and stands ahead
	isAsked(t, x.reqs, asksAdd(1, 0), firsts(5, 4)...)
	x = ticks(t, r, 13, firsts(5, 6)...)
	isAsked(t, x.reqs, asksAdd(1, 0), firsts(5, 6)...)
	r.Bad = firsts(3, 4) // one that has it, as it was said to be full at first
	x = ticks(t, r, 13, firsts(5, 6, 7)...)
	isAsked(t, x.reqs, asksAdd(1, 0), firsts(5, 6, 7)...)
	if !alike(x.r.Has, firsts(2, 3)) || !alike(x.r.Frags, []api.Frag{frag(1, firsts(5, 2, 6, 7)...)}) {
		t.Errorf("%+v", x.r)
	}
}
