package writer_test

import (
	"bytes"
	"math"
	"math/rand/v2"
	"reflect"
	"slices"
	"testing"

	"scrivener/api"
	"scrivener/writer"
)

// three tells the ledger of the chapter's examples.
func three() api.Ledger {
	return api.Ledger{Id: 1, W: 2, A: 2, Frags: []api.Frag{frag(1, firsts(7, 8, 9)...)}}
}

// fresh tells a writer of the ledger, of the epoch 4.
func fresh(t *testing.T, l api.Ledger) api.Writer {
	t.Helper()
	x := begins(t, l, 4)
	if x.e != api.OK {
		t.Fatalf("%+v may not be", l)
	}
	return x.w
}

// sending tells a writer of the ledger that has sent so many entries at the tick 5, each of one byte, its number.
func sending(t *testing.T, l api.Ledger, entries int) api.Writer {
	t.Helper()
	w := fresh(t, l)
	for i := range entries {
		w = sends(t, w, 5, []byte{byte(i + 1)}).w
	}
	return w
}

// resp tells an answer to an add of the ledger 1 and the epoch 4.
func resp(code int, n uint64, from api.Place) api.Resp {
	return api.Resp{From: from, Kind: api.ReqAdd, Code: code, Ledger: 1, N: n, Epoch: 4}
}

// oks has places answer that they have an entry.
func oks(t *testing.T, w api.Writer, n uint64, from ...api.Place) api.Writer {
	t.Helper()
	for _, p := range from {
		w = takes(t, w, 6, resp(api.RespOk, n, p)).w
	}
	return w
}

// isSure looks up to which entry a writer is sure, and how many wait.
func isSure(t *testing.T, w api.Writer, sure uint64, waits int) {
	t.Helper()
	if w.Sure != sure || len(w.Waits) != waits {
		t.Errorf("sure of %d, not %d, and %d wait, not %d", w.Sure, sure, len(w.Waits), waits)
	}
}

// isBad looks which places are bad.
func isBad(t *testing.T, w api.Writer, want ...api.Place) {
	t.Helper()
	if !slices.Equal(w.Bad, want) {
		t.Errorf("bad: %v, not %v", w.Bad, want)
	}
}

// goes is an entry that goes to a place.
type goes struct {
	n  uint64
	to api.Place
}

// isAsked looks who is asked to have which entries, by a writer of ledger 1 and epoch 4 that is sure of so many.
func isAsked(t *testing.T, reqs []api.Req, sure uint64, want ...goes) {
	t.Helper()
	var l []api.Req
	for _, g := range want {
		l = append(l, api.Req{To: g.to, Kind: api.ReqAdd, Ledger: 1, N: g.n, Epoch: 4, Sure: sure, Body: []byte{byte(g.n)}})
	}
	if !alike(reqs, l) {
		t.Errorf("asked: %+v\nnot    %+v", reqs, l)
	}
}

// stays looks whether a writer is as it was.
func stays(t *testing.T, w, was api.Writer) {
	t.Helper()
	if !alike(w, was) {
		t.Errorf("%+v, not as it was: %+v", w, was)
	}
}

// The examples of the chapter.
func TestExamples(t *testing.T) {
	x := sends(t, fresh(t, three()), 5, []byte{1})
	isAsked(t, x.reqs, 0, goes{1, at(7, 1)}, goes{1, at(8, 1)})
	w := oks(t, x.w, 1, at(7, 1))
	isSure(t, w, 0, 1)
	w = oks(t, w, 1, at(9, 1))
	isSure(t, w, 0, 1)
	w = oks(t, w, 1, at(8, 1))
	isSure(t, w, 1, 0)
	x = sends(t, w, 5, []byte{2})
	isAsked(t, x.reqs, 1, goes{2, at(8, 1)}, goes{2, at(9, 1)})
	x = ticks(t, x.w, 14)
	isAsked(t, x.reqs, 1, goes{2, at(8, 1)}, goes{2, at(9, 1)})
	isBad(t, x.w, firsts(8, 9)...)
	x = asks(t, oks(t, x.w, 2, at(9, 1)), 3, at(6, 1))
	if !x.ok || !alike(x.frag, frag(2, firsts(7, 6)...)) {
		t.Errorf("asked for %v, %v", x.frag, x.ok)
	}
	w = oks(t, x.w, 2, at(8, 1))
	isSure(t, w, 1, 1)
	x = changes(t, w, 15, true)
	isAsked(t, x.reqs, 1, goes{2, at(7, 1)}, goes{2, at(6, 1)})
	isBad(t, x.w)
}

// P15.1: a writer of a ledger that is open.
func TestNew(t *testing.T) {
	many := api.Ledger{Id: top, W: 5, A: 1}
	for i := range uint64(6) {
		many.Frags = append(many.Frags, frag(i+1, at(1, top), at(2, 1), at(3, 7), at(15, 1), at(4, 9)))
	}
	for _, l := range []api.Ledger{three(), many, {Id: 3, W: 1, A: 1, Frags: []api.Frag{frag(1, at(9, 9)), frag(9, at(8, 1), at(1, 1))}}} {
		for _, epoch := range []uint64{1, 2, top} {
			x := begins(t, l, epoch)
			if want := (api.Writer{Ledger: l, Epoch: epoch, Next: 1}); x.e != api.OK || !alike(x.w, want) {
				t.Errorf("%+v, %d", x.w, x.e)
			}
		}
	}
}

// P15.1: a ledger that may not be, or is closed, and epochs that may not be.
func TestNoNew(t *testing.T) {
	for name, does := range map[string]func(l *api.Ledger){
		"no Id":            func(l *api.Ledger) { l.Id = 0 },
		"Id too great":     func(l *api.Ledger) { l.Id = top + 1 },
		"closed":           func(l *api.Ledger) { l.Closed = 1 },
		"closed, with end": func(l *api.Ledger) { l.Closed, l.Last = 1, 5 },
		"half closed":      func(l *api.Ledger) { l.Closed = 2 },
		"open, with end":   func(l *api.Ledger) { l.Last = 1 },
		"no W":             func(l *api.Ledger) { l.W, l.A = 0, 0 },
		"W too great":      func(l *api.Ledger) { l.W = 4 },
		"no A":             func(l *api.Ledger) { l.A = 0 },
		"A above W":        func(l *api.Ledger) { l.A = 3 },
		"no fragments":     func(l *api.Ledger) { l.Frags = nil },
		"begins at 2":      func(l *api.Ledger) { l.Frags[0].First = 2 },
		"First twice":      func(l *api.Ledger) { l.Frags = append(l.Frags, l.Frags[0]) },
		"First too great":  func(l *api.Ledger) { l.Frags = append(l.Frags, frag(10, firsts(7, 8)...)) },
		"node twice":       func(l *api.Ledger) { l.Frags[0].Bookies[2] = at(7, 2) },
		"no place":         func(l *api.Ledger) { l.Frags[0].Bookies[1] = at(8, 0) },
		"no node":          func(l *api.Ledger) { l.Frags[0].Bookies[1] = at(16, 1) },
	} {
		l := three()
		does(&l)
		for _, epoch := range []uint64{0, 1, top} {
			if x := begins(t, l, epoch); x.e != api.ErrArg || !alike(x.w, api.Writer{}) {
				t.Errorf("%s: %+v, %d", name, x.w, x.e)
			}
		}
	}
	for _, epoch := range []uint64{0, top + 1, 1 << 63, math.MaxUint64} {
		if x := begins(t, three(), epoch); x.e != api.ErrArg || !alike(x.w, api.Writer{}) {
			t.Errorf("epoch %d: %+v, %d", epoch, x.w, x.e)
		}
	}
}

// P15.2: entries are numbered one behind the other; each goes to its write set, and waits.
func TestSend(t *testing.T) {
	w := fresh(t, three())
	sets := [][]api.Place{nil, firsts(7, 8), firsts(8, 9), firsts(9, 7), firsts(7, 8), firsts(8, 9), firsts(9, 7), firsts(7, 8), firsts(8, 9)}
	for n := uint64(1); n <= 8; n++ {
		x := sends(t, w, 100+n, []byte{byte(n)})
		isAsked(t, x.reqs, 0, goes{n, sets[n][0]}, goes{n, sets[n][1]})
		waiting := api.Waiting{N: n, Body: []byte{byte(n)}, Born: 100 + n, Since: 100 + n}
		if x.e != api.OK || x.w.Next != n+1 || !alike(x.w.Waits, append(w.Waits, waiting)) {
			t.Errorf("%d: %+v, %d", n, x.w, x.e)
		}
		w = x.w
	}
	x := sends(t, w, 200, []byte{9})
	if x.e != api.ErrFull || x.reqs != nil {
		t.Errorf("nine: %v, %d", x.reqs, x.e)
	}
	stays(t, x.w, w)
}

// P15.2: what is sent tells what is sure then; by the fragments as they are then.
func TestSendSure(t *testing.T) {
	w := oks(t, sending(t, three(), 2), 1, firsts(7, 8)...)
	isAsked(t, sends(t, w, 9, []byte{3}).reqs, 1, goes{3, at(9, 1)}, goes{3, at(7, 1)})
	w.Ledger.Frags = append(w.Ledger.Frags, frag(2, firsts(4, 5, 6)...))
	isAsked(t, sends(t, w, 9, []byte{3}).reqs, 1, goes{3, at(5, 1)}, goes{3, at(6, 1)})
	w.Change = frag(2, firsts(1, 2)...)
	isAsked(t, sends(t, w, 9, []byte{3}).reqs, 1, goes{3, at(5, 1)}, goes{3, at(6, 1)})
	isBad(t, sends(t, w, math.MaxUint64, []byte{3}).w)
}

// P15.2: how long an entry may be.
func TestSendLengths(t *testing.T) {
	w := sending(t, three(), 1)
	for size, want := range map[int]api.Errno{0: api.OK, 1: api.OK, 64: api.OK, 200: api.OK, 2047: api.OK, 2048: api.OK, 2049: api.ErrLong, 16384: api.ErrLong, 1 << 20: api.ErrLong} {
		body := bytes.Repeat([]byte{7}, size)
		x := sends(t, w, 9, body)
		if x.e != want {
			t.Errorf("%d bytes: %d", size, x.e)
		}
		if want != api.OK {
			stays(t, x.w, w)
		} else if !bytes.Equal(x.reqs[0].Body, body) || !bytes.Equal(x.reqs[1].Body, body) || !bytes.Equal(x.w.Waits[1].Body, body) {
			t.Errorf("%d bytes: others are sent", size)
		}
	}
	x := sends(t, w, 9, nil)
	if x.e != api.OK || len(x.reqs) != 2 {
		t.Errorf("none: %v, %d", x.reqs, x.e)
	}
}

// P15.2: of several errors the first one, and the writer as it was.
func TestSendErrors(t *testing.T) {
	long := make([]byte, 2049)
	for _, c := range []struct {
		fenced int
		next   uint64
		body   []byte
		want   api.Errno
	}{
		{0, 8, nil, api.OK}, {0, 9, nil, api.ErrFull}, {0, 10, nil, api.ErrFull}, {0, math.MaxUint64, nil, api.ErrFull}, {0, 8, long, api.ErrLong},
		{1, 8, nil, api.ErrState}, {0, 9, long, api.ErrLong}, {1, 9, nil, api.ErrState}, {1, 8, long, api.ErrState}, {1, 9, long, api.ErrState},
	} {
		w := sending(t, three(), 2)
		w.Fenced, w.Next, w.Bad, w.Change = c.fenced, c.next, firsts(7), frag(3, firsts(7, 8)...)
		x := sends(t, w, 9, c.body)
		if x.e != c.want {
			t.Errorf("%+v: %d", c.next, x.e)
		}
		if x.e != api.OK {
			stays(t, x.w, w)
			if x.reqs != nil {
				t.Errorf("beside an error %v", x.reqs)
			}
		}
	}
}

// P15.7: whether there are as many entries as there may be.
func TestFull(t *testing.T) {
	for _, next := range []uint64{0, 1, 7, 8, 9, 10, 1 << 32, 1 << 63, math.MaxUint64} {
		if got := writer.Full(api.Writer{Next: next}); got != (next > 8) {
			t.Errorf("%d: %v", next, got)
		}
	}
	w := sending(t, three(), 7)
	if writer.Full(w) || !writer.Full(sends(t, w, 5, nil).w) {
		t.Errorf("seven, eight entries: %v", writer.Full(w))
	}
}

// whole tells a writer none of whose fields is zero.
func whole() api.Writer {
	return api.Writer{
		Ledger: api.Ledger{Id: 1, W: 2, A: 3, Frags: []api.Frag{frag(4, at(5, 6), at(7, 8)), frag(9, at(10, 11))}, Closed: 12, Last: 13},
		Epoch:  14, Next: 15, Sure: 16,
		Waits: []api.Waiting{{N: 17, Body: []byte{18, 19}, From: []api.Place{at(20, 21), at(22, 23)}, Born: 24, Since: 25}, {N: 26, Body: []byte{27}, From: []api.Place{at(28, 29)}, Born: 30, Since: 31}},
		Bad:   []api.Place{at(32, 33), at(34, 35)}, Change: frag(36, at(37, 38), at(39, 40)), Fenced: 41,
	}
}

// P15.7: two writers are the same if each field is, a list by what stands in it.
func TestSame(t *testing.T) {
	same := func(want bool, a, b api.Writer) {
		t.Helper()
		if writer.Same(a, b) != want || writer.Same(b, a) != want {
			t.Fatalf("%+v, %+v: not %v", a, b, want)
		}
	}
	w := whole()
	same(true, w, twin(w))
	same(true, api.Writer{}, api.Writer{Ledger: api.Ledger{Frags: []api.Frag{}}, Waits: []api.Waiting{}, Bad: []api.Place{}, Change: api.Frag{Bookies: []api.Place{}}})
	same(true, api.Writer{Waits: []api.Waiting{{}}}, api.Writer{Waits: []api.Waiting{{Body: []byte{}, From: []api.Place{}}}})
	same(true, api.Writer{Ledger: api.Ledger{Frags: []api.Frag{{}}}}, api.Writer{Ledger: api.Ledger{Frags: []api.Frag{frag(0, []api.Place{}...)}}})
	same(false, api.Writer{Waits: []api.Waiting{{}}}, api.Writer{})
	same(false, api.Writer{Ledger: api.Ledger{Frags: []api.Frag{{}}}}, api.Writer{})
	same(false, api.Writer{Bad: []api.Place{{}}}, api.Writer{})
	same(false, api.Writer{Waits: []api.Waiting{{Body: []byte{0}}}}, api.Writer{Waits: []api.Waiting{{}}})
	n := 0
	walk(reflect.ValueOf(&w).Elem(), func(reflect.Value) { n++ })
	for i := range n {
		q, k := twin(w), 0
		walk(reflect.ValueOf(&q).Elem(), func(v reflect.Value) {
			if k == i {
				set(v, 77)
			}
			k++
		})
		same(false, w, q)
	}
	for i := range walk(reflect.ValueOf(w), func(reflect.Value) {}) {
		q := twin(w)
		l := walk(reflect.ValueOf(&q).Elem(), func(reflect.Value) {})[i]
		l.Set(l.Slice(0, l.Len()-1))
		same(false, w, q)
	}
	d := rand.New(rand.NewPCG(15, 1))
	for range 2000 {
		a := drawAny(d)
		b := altered(d, a)
		same(alike(a, b), a, b)
		same(true, b, twin(b))
	}
}

// seen counts what came of calls, by names.
type seen map[string]int

// count counts something that is so.
func (s seen) count(name string, is bool) {
	if is {
		s[name]++
	}
}

// P15.2 to P15.6: whatever the writer, and whatever it is told: what the words say.
func TestDrawn(t *testing.T) {
	d := rand.New(rand.NewPCG(15, 2))
	all := seen{}
	for range 12000 {
		w := drawAny(d)
		r := drawResp(d, w)
		for range one(d, 0, 0, 0, 1, 2) {
			r = altered(d, r)
		}
		now := one(d, 0, d.Uint64N(50), d.Uint64N(50), math.MaxUint64, math.MaxUint64-5)
		x := sends(t, w, now, make([]byte, one(d, 0, 5, 5, 5, 2048, 2049)))
		all.count("sent", x.e == api.OK)
		all.count("not sent", x.e != api.OK)
		x = takes(t, w, now, r)
		all.count("surer", x.w.Sure > w.Sure)
		all.count("worse", len(x.w.Bad) > len(w.Bad))
		all.count("fenced", x.w.Fenced > w.Fenced)
		x = ticks(t, w, now)
		all.count("sent again", len(x.reqs) > 0)
		all.count("given up", len(x.w.Bad) > len(w.Bad))
		x = asks(t, w, one(d, 0, 3, 5, d.IntN(9)-2, math.MaxInt, math.MinInt), drawRow(d, 0)...)
		all.count("asked", x.ok)
		all.count("not renewed", len(x.w.Bad) < len(w.Bad))
		x = changes(t, w, now, d.IntN(2) == 0)
		all.count("changed", len(x.w.Ledger.Frags) > len(w.Ledger.Frags))
		all.count("changed, surer", x.w.Sure > w.Sure)
	}
	for _, name := range []string{"sent", "not sent", "surer", "worse", "fenced", "sent again", "given up", "asked", "not renewed", "changed", "changed, surer"} {
		if all[name] < 150 {
			t.Errorf("%s comes %d times", name, all[name])
		}
	}
}
