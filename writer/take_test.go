package writer_test

import (
	"math"
	"slices"
	"testing"

	"scrivener/api"
)

// P15.3: answers to something else are left aside.
func TestTakeAside(t *testing.T) {
	w := oks(t, sending(t, three(), 2), 1, at(7, 1))
	for code := -1; code <= 6; code++ {
		for name, does := range map[string]func(r *api.Resp){
			"a fence":        func(r *api.Resp) { r.Kind = api.ReqFence },
			"a get":          func(r *api.Resp) { r.Kind = api.ReqGet },
			"a free":         func(r *api.Resp) { r.Kind = api.ReqFree },
			"a hello":        func(r *api.Resp) { r.Kind = api.ReqHello },
			"no kind":        func(r *api.Resp) { r.Kind = 0 },
			"another ledger": func(r *api.Resp) { r.Ledger = 2 },
			"no ledger":      func(r *api.Resp) { r.Ledger = 0 },
			"a lesser epoch": func(r *api.Resp) { r.Epoch = 3 },
			"a higher epoch": func(r *api.Resp) { r.Epoch = 5 },
		} {
			r := resp(code, 1, at(8, 1))
			does(&r)
			if x := takes(t, w, 6, r); !alike(x.w, w) {
				t.Errorf("%s, %d: %+v", name, code, x.w)
			}
		}
		if x := takes(t, w, 6, resp(code, 1, at(8, 1))); (code >= 0 && code <= 4 && code != api.RespNone) == alike(x.w, w) {
			t.Errorf("%d: %+v", code, x.w)
		}
	}
}

// P15.3: who has an entry is among those who have it, once, if it is a place of one of the fragments.
func TestTakeOk(t *testing.T) {
	l := three()
	l.A = 1
	l.Frags = append(l.Frags, frag(4, firsts(5, 6, 7)...))
	for _, c := range []struct {
		n    uint64
		from api.Place
		sure uint64
		has  []api.Place // of the entry 2, while it waits
	}{
		{2, at(7, 1), 0, firsts(7)}, {2, at(5, 1), 0, firsts(5)}, {2, at(8, 1), 0, firsts(8)}, {2, at(4, 1), 0, nil}, {2, at(8, 2), 0, nil}, {2, api.Place{}, 0, nil},
		{1, at(7, 1), 1, nil}, {1, at(8, 1), 1, nil}, {1, at(9, 1), 0, nil}, {1, at(5, 1), 0, nil}, {1, at(7, 2), 0, nil},
		{0, at(8, 1), 0, nil}, {3, at(8, 1), 0, nil}, {math.MaxUint64, at(8, 1), 0, nil},
	} {
		w := oks(t, sending(t, l, 2), c.n, c.from)
		isSure(t, w, c.sure, 2-int(c.sure))
		if x := w.Waits[len(w.Waits)-1]; !slices.Equal(x.From, c.has) || x.Born != 5 || x.Since != 5 || w.Next != 3 {
			t.Errorf("%+v: %+v", c, w)
		}
		w = oks(t, w, c.n, c.from)
		if x := w.Waits[len(w.Waits)-1]; w.Sure != c.sure || !slices.Equal(x.From, c.has) {
			t.Errorf("%+v twice: %+v", c, w)
		}
	}
	w := oks(t, sending(t, l, 2), 2, firsts(9, 8, 9, 7, 8)...)
	if !slices.Equal(w.Waits[1].From, firsts(9, 8, 7)) {
		t.Errorf("%+v", w.Waits)
	}
}

// P15.3: entries are sure in their order, as soon as all ahead of them are.
func TestSureInOrder(t *testing.T) {
	w := sending(t, three(), 4)
	w = oks(t, w, 3, firsts(9, 7)...)
	w = oks(t, w, 2, firsts(9)...)
	w = oks(t, w, 4, firsts(8)...)
	w = oks(t, w, 1, firsts(7, 9)...)
	isSure(t, w, 0, 4)
	w = oks(t, w, 1, firsts(8)...)
	isSure(t, w, 1, 3)
	w = oks(t, w, 2, firsts(8)...)
	isSure(t, w, 3, 1)
	w = oks(t, w, 2, firsts(8, 9)...)
	isSure(t, w, 3, 1)
	if w.Waits[0].N != 4 || !slices.Equal(w.Waits[0].From, firsts(8)) {
		t.Errorf("%+v", w.Waits)
	}
	isSure(t, oks(t, w, 4, firsts(7)...), 4, 0)
}

// P15.3: how many are enough.
func TestEnough(t *testing.T) {
	l := api.Ledger{Id: 1, W: 5, Frags: []api.Frag{frag(1, firsts(1, 2, 3, 4, 5)...)}}
	for l.A = 1; l.A <= 5; l.A++ {
		w := sending(t, l, 1)
		for i, p := range firsts(3, 1, 5, 2, 4) {
			w = oks(t, w, 1, p, p)
			if sure := i+1 >= l.A; (w.Sure == 1) != sure || (len(w.Waits) == 0) != sure {
				t.Errorf("%d of %d: %+v", i+1, l.A, w)
			}
		}
	}
}

// P15.3: nothing is sure from where a change is asked for on.
func TestSureAheadOfChange(t *testing.T) {
	for first := uint64(0); first <= 6; first++ {
		w := sending(t, three(), 4)
		w.Change = frag(first, firsts(7, 8)...)
		for n := uint64(4); n >= 1; n-- {
			w = oks(t, w, n, firsts(7, 8, 9)...)
		}
		sure := min(first-1, 4) // 4 where no change is asked for, as 0 less one is the greatest number
		isSure(t, w, sure, int(4-sure))
	}
}

// P15.3: a bookie that refuses the epoch fences the writer, whichever entry it is asked about.
func TestTakeFenced(t *testing.T) {
	l := three()
	l.Frags = append(l.Frags, frag(4, firsts(5, 6)...))
	w := sending(t, l, 2)
	for _, n := range []uint64{0, 1, 2, 9, math.MaxUint64} {
		for _, p := range firsts(7, 8, 9, 5, 6) {
			x := takes(t, w, 6, resp(api.RespFenced, n, p))
			want := twin(w)
			want.Fenced = 1
			stays(t, x.w, want)
			stays(t, takes(t, x.w, 6, resp(api.RespFenced, n, p)).w, want)
		}
		for _, p := range []api.Place{at(4, 1), at(7, 2), at(5, 0), {}} {
			stays(t, takes(t, w, 6, resp(api.RespFenced, n, p)).w, w)
		}
	}
}

// P15.3: a fenced writer still hears who has what.
func TestTakeWhenFenced(t *testing.T) {
	w := takes(t, sending(t, three(), 2), 6, resp(api.RespFenced, 1, at(9, 1))).w
	w = oks(t, w, 1, firsts(7, 8)...)
	isSure(t, w, 1, 1)
	w = takes(t, w, 6, resp(api.RespFull, 2, at(8, 1))).w
	isBad(t, w, at(8, 1))
}

// P15.3: a bookie that cannot write is bad, if it is a place of the last fragment, once.
func TestTakeFull(t *testing.T) {
	l := three()
	l.Frags = append(l.Frags, frag(4, firsts(5, 8, 6)...))
	w := sending(t, l, 2)
	for _, p := range []api.Place{at(7, 1), at(9, 1), at(4, 1), at(5, 2), at(8, 2), {}} {
		stays(t, takes(t, w, 6, resp(api.RespFull, 1, p)).w, w)
	}
	for _, n := range []uint64{0, 1, 2, 7, math.MaxUint64} {
		w := takes(t, w, 6, resp(api.RespFull, n, at(6, 1))).w
		isBad(t, w, at(6, 1))
		w = takes(t, w, 6, resp(api.RespFull, n, at(5, 1))).w
		isBad(t, w, firsts(6, 5)...)
		w = takes(t, w, 6, resp(api.RespFull, n, at(6, 1))).w
		isBad(t, w, firsts(6, 5)...)
		w = takes(t, w, 6, resp(api.RespFull, n, at(8, 1))).w
		isBad(t, w, firsts(6, 5, 8)...)
		isSure(t, w, 0, 2)
	}
}

// P15.3: a bookie with another disk: what the last fragment has of its node is bad, once.
func TestTakeStrange(t *testing.T) {
	l := three()
	l.Frags = append(l.Frags, frag(4, at(5, 1), at(8, 3), at(6, 2)))
	w := sending(t, l, 2)
	for _, p := range []api.Place{at(7, 1), at(7, 2), at(9, 1), at(9, 5), at(4, 1), {}} {
		stays(t, takes(t, w, 6, resp(api.RespStrange, 1, p)).w, w)
	}
	for _, serial := range []uint64{0, 1, 2, 3, 4, math.MaxUint64} {
		w := takes(t, w, 6, resp(api.RespStrange, 2, at(8, serial))).w
		isBad(t, w, at(8, 3))
		w = takes(t, w, 6, resp(api.RespStrange, 2, at(6, serial))).w
		isBad(t, w, at(8, 3), at(6, 2))
		w = takes(t, w, 6, resp(api.RespStrange, 1, at(8, serial))).w
		isBad(t, w, at(8, 3), at(6, 2))
		w = takes(t, w, 6, resp(api.RespFull, 1, at(6, 2))).w
		isBad(t, w, at(8, 3), at(6, 2))
	}
}

// P15.3: a bookie that has no such entry, or other bytes of it, is left aside, as codes are that are none.
func TestTakeNone(t *testing.T) {
	w := oks(t, sending(t, three(), 2), 1, at(7, 1))
	for _, code := range []int{api.RespNone, 5, 6, -1, math.MinInt, math.MaxInt, 1 << 32} {
		for _, p := range firsts(7, 8, 9) {
			stays(t, takes(t, w, 6, resp(code, 1, p)).w, w)
		}
	}
}
