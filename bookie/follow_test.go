package bookie_test

import (
	"bytes"
	"fmt"
	"maps"
	"math/rand/v2"
	"slices"
	"testing"

	"scrivener/api"
	"scrivener/bookie"
	"scrivener/disk"
)

// none looks whether a bookie takes nothing, and tells nothing.
func none(t *testing.T, name string, b *bookie.Bookie) {
	t.Helper()
	for _, r := range append(kinds(), of(hello(), 0, 0), of(get(1, 1), 0, 0), fence(0, 0)) {
		if b.Take(9, r) || b.Take(0, r) {
			t.Errorf("%s: %+v is taken", name, r)
		}
	}
	for range 2 {
		if got, e := b.Flush(); len(got) > 0 || e != api.ErrDown || b.Waits() != 0 {
			t.Errorf("%s: %+v, %d, %d wait", name, got, e, b.Waits())
		}
	}
	tells(t, name, b)
}

// tells looks whether a bookie tells nothing of what it has.
func tells(t *testing.T, name string, b *bookie.Bookie) {
	t.Helper()
	if len(b.Keys()) > 0 {
		t.Errorf("%s: %v", name, b.Keys())
	}
	for l := range uint64(10) {
		if x, ok := b.Get(api.Key{Ledger: l, N: 1}); len(x) > 0 || ok || b.Fenced(l) != 0 {
			t.Errorf("%s: %d: %q, %v, %d", name, l, x, ok, b.Fenced(l))
		}
	}
}

// some tells a disk that has something of all.
func some(t *testing.T) *disk.Disk {
	t.Helper()
	return with(t, 9000, floorOf(7, 5), fenceOf(5, 3), fenceOf(9, 2), entryOf(5, 1, 4, "five"), entryOf(9, 1, 8, "nine"))
}

// P13.4: a bookie that Open did not make.
func TestNotMade(t *testing.T) {
	d := some(t)
	x := on(t, d)
	x.take("one waits", 9, get(5, 1))
	other := *x.b
	for name, b := range map[string]*bookie.Bookie{"nil": nil, "a zero one": {}, "new": new(bookie.Bookie), "a copied one": &other} {
		if b.Place() != (api.Place{}) || b.Waits() != 0 {
			t.Errorf("%s: %v, %d wait", name, b.Place(), b.Waits())
		}
		none(t, name, b)
	}
	x.is("the other one")
	if got := x.flush("the other one"); len(got) != 1 {
		t.Errorf("%+v", got)
	}
}

// P13.2, P13.3: a disk that is down: nothing is taken, nor done, nor told; what waited is gone.
func TestDown(t *testing.T) {
	for _, waits := range []int{0, 1, 3, 64} {
		for _, keep := range []int{0, 1, 99} {
			x := on(t, some(t))
			for n := range waits {
				x.take("one waits", 9, add(9, 2+uint64(n), 2, "x"))
			}
			x.d.Crash(keep, 3)
			x.m.disk.Crash(keep, 3)
			for _, r := range kinds() {
				if x.b.Take(9, r) || x.b.Waits() != waits {
					t.Errorf("%+v is taken, or %d wait", r, x.b.Waits())
				}
			}
			tells(t, "down", x.b)
			none(t, "down", x.b)
			x.d.Start()
			x.m.disk.Start()
			x.reopen()
			if n := len(x.b.Keys()); n < 2 || n > 2+min(keep, waits) {
				t.Errorf("%d keys behind %d of %d", n, keep, waits)
			}
			x.answers("anew", get(9, 1), 0, x.m.store.Lac(9), "nine")
		}
	}
}

// P13.4: a bookie of no use ends each call, and another one is opened.
func TestOfNoUse(t *testing.T) {
	r := rand.New(rand.NewPCG(13, 2))
	for i := range 300 {
		d := some(t)
		b := opened(t, 4, d)
		b.Take(9, add(9, 2, 2, "x"))
		if i%2 == 0 {
			d.Wipe()
		} else {
			crashed(t, d, 0, r.IntN(9))
		}
		if i%3 == 0 {
			x := opened(t, 4, d)
			x.Take(9, fence(9, 7))
		}
		for range 30 {
			b.Take(r.IntN(17), spoilt(r, drawReq(r, 9)))
			b.Place()
			b.Waits()
			b.Keys()
			b.Fenced(9)
			b.Get(api.Key{Ledger: 9, N: 1})
			if r.IntN(9) == 0 {
				b.Flush()
			}
		}
		d.Wipe()
		serial := d.Serial()
		if x := opened(t, 4, d); len(x.Keys()) > 0 || x.Waits() > 0 || x.Place() != (api.Place{Node: 4, Serial: serial}) {
			t.Errorf("wiped: %v, %d, %v", x.Keys(), x.Waits(), x.Place())
		}
	}
}

// P13.4: what is handed in stays, with the room behind its end, and is not kept.
func TestHandedIn(t *testing.T) {
	x := on(t, some(t))
	text := []byte("entry and more")
	r := add(9, 2, 2, "")
	r.Body = text[:5]
	x.take("an add", 9, r)
	if string(text) != "entry and more" {
		t.Errorf("%q", text)
	}
	copy(text, "ENTRY AND MORE")
	x.take("a get", 9, get(9, 2))
	if got := x.flush("both"); string(got[1].Resp.Body) != "entry" {
		t.Errorf("%q", got[1].Resp.Body)
	}
	keep := []uint64{9, 3, 9, 5, 9, 77, 78}
	was := slices.Clone(keep)
	f := free(20)
	f.Keep = keep[:5]
	x.m.take(9, free(20, was[:5]...))
	if !x.b.Take(9, f) || !slices.Equal(keep, was) {
		t.Errorf("%v", keep)
	}
	clear(keep)
	x.is("a free")
	x.flush("a free")
	x.answers("kept", fence(5, 4), 0, 4, "")
	x.answers("a lesser one", free(6, 9), 0, 0, "")
	x.answers("kept", fence(9, 4), 0, 8, "")
	x.crash(0, 0)
	x.answers("anew", get(9, 2), 0, 8, "entry")
}

// P13.4: what is answered is new memory.
func TestAnswered(t *testing.T) {
	x := on(t, some(t))
	spoil := func(b []byte) {
		clear(b[:cap(b)])
		_ = append(b[:0], "other"...)
	}
	for range 3 {
		for range 3 {
			x.take("a get", 9, get(9, 1))
		}
		b, _ := x.b.Get(api.Key{Ledger: 9, N: 1})
		spoil(b)
		keys := x.b.Keys()
		clear(keys[:cap(keys)])
		x.is("changed by who was answered")
		got := x.flush("gets")
		spoil(got[0].Resp.Body)
		if string(got[1].Resp.Body) != "nine" || string(got[2].Resp.Body) != "nine" {
			t.Errorf("%+v", got)
		}
		x.take("another one", 9, get(5, 1))
		_ = append(got[:0], make([]api.Given, cap(got)+1)...)
		clear(got[:cap(got)])
		x.is("changed by who was answered")
		if got := x.flush("another one"); string(got[0].Resp.Body) != "five" {
			t.Errorf("%+v", got)
		}
	}
}

// P13.4: two bookies of two disks have nothing to do with each other.
func TestApart(t *testing.T) {
	x, y := on(t, some(t)), on(t, some(t))
	x.take("one", 9, add(9, 2, 2, "two"))
	y.is("the other")
	y.take("the other", 8, fence(9, 9))
	x.is("the one")
	if got := x.flush("the one"); len(got) != 1 || got[0].To != 9 {
		t.Errorf("%+v", got)
	}
	y.is("the other")
	if got := y.flush("the other"); len(got) != 1 || got[0].To != 8 {
		t.Errorf("%+v", got)
	}
}

// Chance has bookies live: they are asked, crash anywhere, and are opened anew.

// heard is what those who asked a bookie know of it, by the answers alone.
type heard struct {
	added  map[api.Key]string // answered RespOk
	fenced map[uint64]uint64  // the highest epochs of fences that were answered RespOk
	got    map[api.Key]string // answered RespOk to a get
	freed  map[uint64]bool    // ledgers that somebody asked to free
	counts map[string]int     // how often there was what is looked for
}

// nobody tells what is known of a bookie that nobody has asked.
func nobody() *heard {
	return &heard{map[api.Key]string{}, map[uint64]uint64{}, map[api.Key]string{}, map[uint64]bool{}, map[string]int{}}
}

// asked tells of what was asked.
func (h *heard) asked(r api.Req) {
	if r.Kind != api.ReqFree {
		return
	}
	for l := range uint64(20) {
		if l < r.N && !slices.Contains(r.Keep, l) {
			h.freed[l] = true
		}
	}
}

// answered looks at an answer to what was asked, when all the fences had been answered.
func (h *heard) answered(t *testing.T, r api.Req, a api.Resp, fenced map[uint64]uint64) {
	t.Helper()
	k := api.Key{Ledger: a.Ledger, N: a.N}
	switch {
	case a.Code == api.RespStrange:
	case a.Kind == api.ReqAdd && r.Copy != 1 && r.Epoch < fenced[r.Ledger]:
		h.counts["fenced off"]++
		if a.Code != api.RespFenced {
			t.Fatalf("behind a fence of %d: %+v", fenced[r.Ledger], a)
		}
		if h.freed[r.Ledger] {
			h.counts["freed"]++
		}
	case a.Kind == api.ReqAdd && a.Code == api.RespOk:
		h.added[k] = string(r.Body)
	case a.Kind == api.ReqFence && a.Code == api.RespOk:
		h.fenced[r.Ledger] = max(h.fenced[r.Ledger], r.Epoch)
	case a.Kind == api.ReqGet && a.Code == api.RespOk:
		h.one(t, k, string(a.Body))
	}
}

// one looks whether what a get was answered is what others were.
func (h *heard) one(t *testing.T, k api.Key, body string) {
	t.Helper()
	if h.freed[k.Ledger] {
		return
	}
	h.counts["got"]++
	if was, ok := h.got[k]; ok && was != body {
		t.Fatalf("%v: %q, and %q", k, was, body)
	}
	if was, ok := h.added[k]; ok && was != body {
		t.Fatalf("%v: %q, but %q was added", k, body, was)
	}
	h.got[k] = body
}

// lasts looks whether a bookie has what it was said to have.
func (h *heard) lasts(t *testing.T, b *bookie.Bookie) {
	t.Helper()
	for k, want := range h.added {
		if h.freed[k.Ledger] {
			continue
		}
		h.counts["lasts"]++
		if x, ok := b.Get(k); !ok || string(x) != want {
			t.Fatalf("%v: %q, %v, not %q", k, x, ok, want)
		}
	}
	for l, epoch := range h.fenced {
		if !h.freed[l] && b.Fenced(l) < epoch {
			t.Fatalf("ledger %d: fenced by %d, not %d", l, b.Fenced(l), epoch)
		}
	}
	for k, want := range h.got {
		if x, ok := b.Get(k); !h.freed[k.Ledger] && (!ok || string(x) != want) {
			t.Fatalf("%v: %q, %v, but %q was told", k, x, ok, want)
		}
	}
}

// P13.5, P13.6, P13.7: what was said is done lasts, who was fenced off stays so, and of a key there is one word, whatever comes.
func TestSaid(t *testing.T) {
	r := rand.New(rand.NewPCG(13, 3))
	counts := map[string]int{}
	for i := range 400 {
		d := roomy(t, one(r, 120, 300, 600, 3000))
		b, h := opened(t, 4, d), nobody()
		var asks []api.Req
		var fences []map[uint64]uint64
		for range 200 {
			a := drawReq(r, one[uint64](r, 1, 3, 9))
			if a.Kind == api.ReqFree && (i%2 == 0 || r.IntN(4) > 0) {
				continue
			}
			there, was := b.Get(api.Key{Ledger: a.Ledger, N: a.N})
			if b.Take(1+r.IntN(15), a) {
				asks, fences = append(asks, a), append(fences, maps.Clone(h.fenced))
				h.asked(a)
			}
			if now, is := b.Get(api.Key{Ledger: a.Ledger, N: a.N}); a.Kind == api.ReqAdd && a.Copy != 1 && a.Epoch < h.fenced[a.Ledger] && (is != was || !bytes.Equal(now, there)) {
				t.Fatalf("%+v: there by one that was fenced off", a)
			}
			if r.IntN(8) == 0 {
				got, e := b.Flush()
				if e != api.OK || len(got) != len(asks) {
					t.Fatalf("%d answers to %d, %d", len(got), len(asks), e)
				}
				for j, g := range got {
					h.answered(t, asks[j], g.Resp, fences[j])
				}
				asks, fences = nil, nil
			}
			for keep := range min(d.Waits(), 3) {
				h.lasts(t, opened(t, 4, crashed(t, d.Copy(), keep, r.IntN(20))))
			}
			if r.IntN(20) == 0 {
				d = crashed(t, d, r.IntN(d.Waits()+2), r.IntN(30))
				b = opened(t, 4, d)
				h.lasts(t, b)
				asks, fences = nil, nil
			}
		}
		for name, n := range h.counts {
			counts[name] += n
		}
	}
	for _, name := range []string{"fenced off", "freed", "got", "lasts"} {
		if counts[name] < 300 {
			t.Errorf("%s: %d", name, counts[name])
		}
	}
}

// P13.5: nothing is said ahead of the sync: a crash ahead of Flush takes all answers along, one behind it none of what was said.
func TestSaidIsDone(t *testing.T) {
	for name, c := range map[string]struct {
		ask  api.Req
		done func(b *bookie.Bookie) bool
	}{
		"an add":   {add(1, 1, 2, "ab"), func(b *bookie.Bookie) bool { _, ok := b.Get(api.Key{Ledger: 1, N: 1}); return ok }},
		"a copy":   {copied(add(9, 2, 1, "ab"), 1), func(b *bookie.Bookie) bool { _, ok := b.Get(api.Key{Ledger: 9, N: 2}); return ok }},
		"a fence":  {fence(9, 4), func(b *bookie.Bookie) bool { return b.Fenced(9) == 4 }},
		"a free":   {free(10), func(b *bookie.Bookie) bool { return b.Fenced(9) == 0 }},
		"the same": {add(1, 1, 2, "ab"), func(b *bookie.Bookie) bool { _, ok := b.Get(api.Key{Ledger: 1, N: 1}); return ok }},
	} {
		d := with(t, 9000, entryOf(9, 1, 8, "nine"), fenceOf(9, 2))
		b := opened(t, 4, d)
		b.Take(9, c.ask)
		d = crashed(t, d, 0, 0)
		if got, _ := opened(t, 4, d).Flush(); len(got) > 0 || c.done(opened(t, 4, d)) {
			t.Errorf("%s: %+v", name, got)
		}
		b = opened(t, 4, d)
		if !b.Take(9, c.ask) || name == "the same" && !b.Take(9, c.ask) {
			t.Errorf("%s: not taken", name)
		}
		if got, e := b.Flush(); len(got) == 0 || e != api.OK || got[len(got)-1].Resp.Code != api.RespOk {
			t.Errorf("%s: %+v, %d", name, got, e)
		}
		if b = opened(t, 4, crashed(t, d, 0, 0)); !c.done(b) {
			t.Errorf("%s: it is not done", name)
		}
	}
}

// P13.6: who was fenced off stays so: at once, behind crashes, and when the ledger was freed, by whatever it is freed.
func TestFencedOff(t *testing.T) {
	for _, f := range [][]api.Req{nil, {free(2)}, {free(9, 2)}, {free(9, 1), free(9)}, {free(9, 1), free(2)}, {free(9, 1), free(4, 1), free(3, 2)}, {free(1<<64-1, 1), free(top+1, 2)}} {
		x := on(t, roomy(t, 900))
		x.answers("an entry", add(1, 1, 2, "a"), 0, 0, "")
		x.answers("a fence", fence(1, 3), 0, 0, "")
		refuses := func(name string) {
			for epoch := range uint64(3) {
				x.answers(name, add(1, 2, epoch, "b"), 1, 0, "")
				x.answers(name, add(1, 1, epoch, "a"), 1, 0, "")
				x.answers(name, get(1, 2), 3, 0, "")
			}
		}
		refuses("fenced")
		x.crash(0, 0)
		refuses("fenced, anew")
		for _, r := range f {
			x.answers(fmt.Sprint(f), r, 0, 0, "")
			refuses(fmt.Sprint(f))
		}
		x.crash(0, 0)
		refuses(fmt.Sprint(f, ", anew"))
		if len(f) == 0 {
			continue
		}
		for epoch := range uint64(9) {
			x.answers("nothing of it", add(1, 1, epoch, "a"), 1, 0, "")
			x.answers("nothing of it", copied(add(1, 1, epoch, "a"), 1), 1, 0, "")
		}
		x.answers("nothing of it", fence(1, top), 1, 0, "")
	}
}

// P13.7: what is not synced yet is told by no get that is answered: behind a crash other bytes may stand there.
func TestOneWord(t *testing.T) {
	x := on(t, roomy(t, 900))
	x.take("an add", 9, add(1, 1, 2, "ab"))
	x.take("a get", 9, get(1, 1))
	x.crash(0, 5)
	x.answers("gone", get(1, 1), 3, 0, "")
	x.answers("other bytes", add(1, 1, 2, "cd"), 0, 0, "")
	x.answers("these", get(1, 1), 0, 0, "cd")
	x.answers("no others", add(1, 1, 2, "ab"), 3, 0, "")
	x.answers("no others, by a copy", copied(add(1, 1, 9, "ab"), 1), 3, 0, "")
	x.crash(0, 0)
	x.answers("these", get(1, 1), 0, 0, "cd")
}
