package writer_test

import (
	"math"
	"testing"

	"scrivener/api"
)

// P15.4: from the third tick on since an entry was sent it is sent again; from the ninth tick on since its birth who lacks it is bad.
func TestTick(t *testing.T) {
	for _, c := range []struct {
		born, since, now uint64
		again, bad       bool
	}{
		{5, 5, 5, false, false}, {5, 5, 7, false, false}, {5, 5, 8, true, false}, {5, 5, 9, true, false}, {5, 5, 13, true, false}, {5, 5, 14, true, true}, {5, 5, 99, true, true},
		{5, 12, 14, false, true}, {5, 11, 14, true, true}, {12, 5, 14, true, false}, {5, 14, 14, false, true},
		{5, 20, 14, false, true}, {20, 5, 14, true, false}, {20, 20, 14, false, false}, {20, 20, 0, false, false}, {0, 0, 0, false, false}, {0, 0, 2, false, false}, {0, 0, 3, true, false},
		{math.MaxUint64, math.MaxUint64, 0, false, false}, {math.MaxUint64, math.MaxUint64, 8, false, false}, {math.MaxUint64 - 9, math.MaxUint64 - 3, math.MaxUint64, true, true},
		{math.MaxUint64 - 8, math.MaxUint64 - 2, math.MaxUint64, false, false}, {0, 0, math.MaxUint64, true, true}, {1 << 63, 1 << 63, 1<<63 - 1, false, false},
	} {
		w := oks(t, sending(t, three(), 1), 1, at(7, 1))
		w.Waits[0].Born, w.Waits[0].Since = c.born, c.since
		x := ticks(t, w, c.now)
		since := c.since
		if c.again {
			isAsked(t, x.reqs, 0, goes{1, at(8, 1)})
			since = c.now
		} else {
			isAsked(t, x.reqs, 0)
		}
		if c.bad {
			isBad(t, x.w, at(8, 1))
		} else {
			isBad(t, x.w)
		}
		if y := x.w.Waits[0]; y.Born != c.born || y.Since != since {
			t.Errorf("%+v: %+v", c, y)
		}
	}
}

// P15.4: each entry that waits, in order, each by its own ticks; bad places stand behind those that were bad, in the sets' order.
func TestTickOfMany(t *testing.T) {
	l := api.Ledger{Id: 1, W: 3, A: 2, Frags: []api.Frag{frag(1, firsts(1, 2, 3, 4, 5)...)}}
	w := sending(t, l, 4)
	w = oks(t, w, 2, at(3, 1))
	w = oks(t, w, 3, firsts(4, 5, 3)...)
	w = takes(t, w, 6, resp(api.RespFull, 4, at(4, 1))).w
	for i, born := range []uint64{12, 5, 6, 7} {
		w.Waits[i].Born = born
	}
	for i, since := range []uint64{11, 13, 11, 12} {
		w.Waits[i].Since = since
	}
	x := ticks(t, w, 14)
	isAsked(t, x.reqs, 0, goes{1, at(1, 1)}, goes{1, at(2, 1)}, goes{1, at(3, 1)})
	isBad(t, x.w, firsts(4, 2)...)
	x = ticks(t, w, 16)
	isAsked(t, x.reqs, 0, goes{1, at(1, 1)}, goes{1, at(2, 1)}, goes{1, at(3, 1)}, goes{2, at(2, 1)}, goes{2, at(4, 1)}, goes{4, at(4, 1)}, goes{4, at(5, 1)}, goes{4, at(1, 1)})
	isBad(t, x.w, firsts(4, 2, 5, 1)...)
	for i, since := range []uint64{16, 16, 16, 16} {
		if x.w.Waits[i].Since != since {
			t.Errorf("%+v", x.w.Waits[i])
		}
	}
	x = ticks(t, x.w, 18)
	isAsked(t, x.reqs, 0)
}

// P15.4: of an earlier fragment's places those alone are bad that the last one has, too.
func TestTickOfEarlierFragments(t *testing.T) {
	l := three()
	l.Frags = append(l.Frags, frag(3, at(9, 1), at(8, 2), at(5, 1)))
	w := sending(t, l, 3)
	x := ticks(t, w, 14)
	isAsked(t, x.reqs, 0, goes{1, at(7, 1)}, goes{1, at(8, 1)}, goes{2, at(8, 1)}, goes{2, at(9, 1)}, goes{3, at(9, 1)}, goes{3, at(8, 2)})
	isBad(t, x.w, at(9, 1), at(8, 2))
	w.Waits = w.Waits[:1]
	isBad(t, ticks(t, w, 14).w)
}

// P15.4: a change that is asked for is in nobody's way; what is asked tells what is sure.
func TestTickBesideChange(t *testing.T) {
	w := oks(t, sending(t, three(), 2), 1, firsts(7, 8)...)
	w.Change, w.Bad = frag(2, firsts(7, 9)...), firsts(8)
	x := ticks(t, w, 14)
	isAsked(t, x.reqs, 1, goes{2, at(8, 1)}, goes{2, at(9, 1)})
	isBad(t, x.w, firsts(8, 9)...)
	w = oks(t, w, 2, firsts(8, 9)...)
	x = ticks(t, w, 14)
	isAsked(t, x.reqs, 1)
	isBad(t, x.w, at(8, 1))
	if x.w.Waits[0].Since != 14 {
		t.Errorf("%+v", x.w.Waits)
	}
}

// P15.4: nothing is sent by one that is fenced, or has nothing that waits.
func TestTickInVain(t *testing.T) {
	w := sending(t, three(), 3)
	w.Fenced = 1
	x := ticks(t, w, 99)
	stays(t, x.w, w)
	isAsked(t, x.reqs, 0)
	w = fresh(t, three())
	x = ticks(t, w, 99)
	stays(t, x.w, w)
	isAsked(t, x.reqs, 0)
}

// P15.5: a change is the last fragment renewed, from behind what is sure on.
func TestAsk(t *testing.T) {
	w := oks(t, sending(t, three(), 5), 1, firsts(7, 8)...)
	w = oks(t, w, 2, firsts(8, 9)...)
	w.Bad = firsts(8)
	for _, c := range []struct {
		e     int
		known []api.Place
		want  []api.Place
	}{
		{3, firsts(6), firsts(7, 6, 9)}, {3, firsts(8, 6), firsts(7, 6, 9)}, {3, []api.Place{at(8, 2), at(6, 1)}, []api.Place{at(7, 1), at(8, 2), at(9, 1)}},
		{3, nil, firsts(7, 9)}, {3, firsts(7, 8, 9), firsts(7, 9)}, {5, firsts(5, 6, 4), firsts(7, 5, 9, 6, 4)}, {9, firsts(1, 2, 3, 4, 5), firsts(7, 1, 9, 2, 3)},
		{0, firsts(6), firsts(7, 6, 9)}, {math.MinInt, nil, firsts(7, 9)}, {math.MaxInt, firsts(1, 2, 3, 4, 5), firsts(7, 1, 9, 2, 3)},
	} {
		x := asks(t, w, c.e, c.known...)
		want := twin(w)
		want.Change = frag(3, c.want...)
		if !x.ok || !alike(x.frag, want.Change) {
			t.Errorf("%+v: %v, %v", c, x.frag, x.ok)
		}
		stays(t, x.w, want)
	}
}

// P15.5: the last fragment is renewed, whichever entry comes next.
func TestAskOfLast(t *testing.T) {
	l := api.Ledger{Id: 1, W: 1, A: 1, Frags: []api.Frag{frag(1, firsts(1, 2)...), frag(2, firsts(3, 4)...), frag(5, firsts(5, 6)...)}}
	for sure := range uint64(10) {
		w := fresh(t, l)
		w.Sure, w.Next, w.Bad = sure, sure+1, firsts(6)
		if x := asks(t, w, 2, at(9, 1)); !x.ok || !alike(x.frag, frag(sure+1, firsts(5, 9)...)) {
			t.Errorf("sure of %d: %v, %v", sure, x.frag, x.ok)
		}
	}
}

// P15.5: nothing is asked for by one that is fenced, waits for a change, or has nothing that is bad: what is bad stays.
func TestAskInVain(t *testing.T) {
	for name, does := range map[string]func(w *api.Writer){
		"fenced":             func(w *api.Writer) { w.Fenced = 1 },
		"a change":           func(w *api.Writer) { w.Change = frag(1, firsts(7, 9)...) },
		"another change":     func(w *api.Writer) { w.Change = frag(9) },
		"fenced and changed": func(w *api.Writer) { w.Fenced, w.Change = 1, frag(2, firsts(7, 9)...) },
		"nothing bad":        func(w *api.Writer) { w.Bad = nil },
		"fenced, not bad":    func(w *api.Writer) { w.Fenced, w.Bad = 1, nil },
	} {
		w := sending(t, three(), 2)
		w.Bad = firsts(8)
		does(&w)
		x := asks(t, w, 3, at(6, 1))
		if x.ok || !alike(x.frag, api.Frag{}) {
			t.Errorf("%s: %v, %v", name, x.frag, x.ok)
		}
		stays(t, x.w, w)
	}
}

// P15.5: where there is nobody else, nothing is bad any more.
func TestAskRefused(t *testing.T) {
	l := three()
	l.W = 3
	for _, known := range [][]api.Place{nil, firsts(8), firsts(7, 9, 8), {at(7, 2), at(9, 2)}} {
		w := sending(t, l, 2)
		w.Bad = firsts(8)
		x := asks(t, w, 5, known...)
		if x.ok || !alike(x.frag, api.Frag{}) {
			t.Errorf("%v, %v", x.frag, x.ok)
		}
		isBad(t, x.w)
		w.Bad = nil
		stays(t, x.w, w)
	}
}

// P15.5: where there are as many fragments as there may be, the last one is changed, or none.
func TestAskOfManyFragments(t *testing.T) {
	for size := 1; size <= 7; size++ {
		for sure := range uint64(10) {
			w := fresh(t, three())
			for i := 1; i < size; i++ {
				w.Ledger.Frags = append(w.Ledger.Frags, frag(uint64(i+1), firsts(7, 8)...))
			}
			w.Sure, w.Next, w.Bad = sure, sure+1, firsts(7)
			x := asks(t, w, 2, at(6, 1))
			last := uint64(size)
			if ok := size < 6 || sure < last; x.ok != ok {
				t.Errorf("%d fragments, sure of %d: %v", size, sure, x.ok)
			}
			if x.ok {
				isBad(t, x.w, at(7, 1))
			} else {
				isBad(t, x.w)
				if x.w.Change.First != 0 || !alike(x.frag, api.Frag{}) {
					t.Errorf("%v, %v", x.w.Change, x.frag)
				}
			}
		}
	}
}

// R6: that one more than Sure is above the last one's First is told where it is beyond a number, too.
func TestAskBehindAllNumbers(t *testing.T) {
	w := fresh(t, three())
	for first := uint64(2); first <= 6; first++ {
		w.Ledger.Frags = append(w.Ledger.Frags, frag(first, firsts(7, 8)...))
	}
	w.Sure, w.Bad = math.MaxUint64, firsts(7)
	x := asks(t, w, 2, at(6, 1))
	if x.ok || !alike(x.frag, api.Frag{}) || x.w.Change.First != 0 {
		t.Errorf("%v, %v", x.frag, x.ok)
	}
	isBad(t, x.w)
}

// P15.6: a change that is taken is the last fragment, behind the others, or in the place of one with its First; all that waits begins anew.
func TestChanged(t *testing.T) {
	l := three()
	l.Frags = append(l.Frags, frag(2, firsts(7, 9)...))
	for _, c := range []struct {
		change api.Frag
		want   []api.Frag
		asked  []goes
	}{
		{frag(3, firsts(4, 5)...), append(twin(l.Frags), frag(3, firsts(4, 5)...)), []goes{{2, at(9, 1)}, {3, at(4, 1)}, {3, at(5, 1)}}},
		{frag(2, firsts(4, 5)...), []api.Frag{l.Frags[0], frag(2, firsts(4, 5)...)}, []goes{{2, at(4, 1)}, {2, at(5, 1)}, {3, at(5, 1)}, {3, at(4, 1)}}},
		{frag(2, firsts(5, 7, 9)...), []api.Frag{l.Frags[0], frag(2, firsts(5, 7, 9)...)}, []goes{{2, at(5, 1)}, {3, at(9, 1)}}},
		{frag(9, firsts(4, 5)...), append(twin(l.Frags), frag(9, firsts(4, 5)...)), []goes{{2, at(9, 1)}, {3, at(9, 1)}}},
	} {
		w := oks(t, sending(t, l, 3), 1, firsts(7, 8)...)
		w = oks(t, w, 2, at(7, 1))
		w = oks(t, w, 3, at(7, 1))
		w.Bad, w.Change = firsts(9, 7), c.change
		x := changes(t, w, 20, true)
		isAsked(t, x.reqs, 1, c.asked...)
		want := twin(w)
		want.Ledger.Frags, want.Bad, want.Change = c.want, nil, api.Frag{}
		for i := range want.Waits {
			want.Waits[i].Born, want.Waits[i].Since = 20, 20
		}
		stays(t, x.w, want)
	}
}

// P15.6: a change that is not taken leaves the fragments; all else is the same.
func TestNotChanged(t *testing.T) {
	w := oks(t, sending(t, three(), 3), 1, firsts(7, 8)...)
	w = oks(t, w, 2, at(9, 1))
	w.Bad, w.Change = firsts(8), frag(2, firsts(7, 9)...)
	x := changes(t, w, 20, false)
	isAsked(t, x.reqs, 1, goes{2, at(8, 1)}, goes{3, at(9, 1)}, goes{3, at(7, 1)})
	w.Bad, w.Change = nil, api.Frag{}
	for i := range w.Waits {
		w.Waits[i].Born, w.Waits[i].Since = 20, 20
	}
	stays(t, x.w, w)
}

// P15.6: where no change is asked for nothing is done.
func TestChangedInVain(t *testing.T) {
	w := oks(t, sending(t, three(), 3), 3, firsts(7, 9)...)
	w.Bad = firsts(8)
	for _, ok := range []bool{true, false} {
		x := changes(t, w, 20, ok)
		stays(t, x.w, w)
		isAsked(t, x.reqs, 0)
	}
}

// P15.6: what the change held is sure, as far as it is good by the fragments then; what is sent tells it.
func TestChangedSure(t *testing.T) {
	for _, c := range []struct {
		ok   bool
		frag api.Frag
		sure uint64
	}{
		{false, frag(1, firsts(5, 6)...), 3}, {true, frag(1, firsts(5, 6)...), 0}, {true, frag(2, firsts(5, 6)...), 1}, {true, frag(2, firsts(9, 8)...), 3}, {true, frag(2, firsts(9, 8, 5)...), 2},
		{true, frag(3, firsts(5, 6)...), 2}, {true, frag(4, firsts(5, 6)...), 3}, {true, frag(1, firsts(7, 8, 9)...), 3},
	} {
		w := sending(t, three(), 4)
		w.Change = frag(1, firsts(7, 8)...)
		for n := uint64(1); n <= 3; n++ {
			w = oks(t, w, n, firsts(7, 8, 9)...)
		}
		w.Change = c.frag
		x := changes(t, w, 20, c.ok)
		isSure(t, x.w, c.sure, 4-int(c.sure))
		for _, r := range x.reqs {
			if r.Sure != c.sure || r.N <= c.sure {
				t.Errorf("%+v: %+v", c, r)
			}
		}
	}
}

// P15.6: one that is fenced is told of a change, too.
func TestChangedWhenFenced(t *testing.T) {
	w := sending(t, three(), 1)
	w.Fenced, w.Change = 1, frag(1, firsts(5, 6)...)
	x := changes(t, w, 20, true)
	isAsked(t, x.reqs, 0, goes{1, at(5, 1)}, goes{1, at(6, 1)})
	if !alike(x.w.Ledger.Frags, []api.Frag{frag(1, firsts(5, 6)...)}) || x.w.Fenced != 1 {
		t.Errorf("%+v", x.w)
	}
}

// P15.6: what stands behind the one with the change's First is no more: the change is the last one.
func TestChangedIsLast(t *testing.T) {
	l := three()
	l.Frags = append(l.Frags, frag(3, firsts(4, 5)...), frag(6, firsts(5, 6)...))
	for first, ahead := range map[uint64]int{1: 0, 2: 3, 3: 1, 5: 3, 6: 2, 7: 3} {
		w := sending(t, l, 1)
		w.Change = frag(first, firsts(1, 2)...)
		x := changes(t, w, 20, true)
		if want := append(twin(l.Frags[:ahead]), w.Change); !alike(x.w.Ledger.Frags, want) {
			t.Errorf("%d: %v", first, x.w.Ledger.Frags)
		}
	}
}
