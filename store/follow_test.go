package store_test

import (
	"fmt"
	"maps"
	"math/rand/v2"
	"slices"
	"testing"

	"scrivener/api"
	"scrivener/store"
)

// none looks whether a store does nothing, and tells nothing.
func none(t *testing.T, name string, s *store.Store) {
	t.Helper()
	for _, a := range []ask{
		add(1, 1, 0, "ab"), add(0, 0, 0, "ab"), add(1, 1, 0, string(make([]byte, 300))), fence(1, 5), fence(0, 0), free(2), free(0), free(9, rising(65)...), flush(),
	} {
		if e := a.of(s); e != api.ErrDown {
			t.Errorf("%s, %v: %d", name, a, e)
		}
	}
	for l := range uint64(12) {
		if b, ok := s.Get(api.Key{Ledger: l, N: 1}); len(b) > 0 || ok || s.Fenced(l) != 0 || s.Lac(l) != 0 || s.Dead(l) {
			t.Errorf("%s, %d: %q, %v, %d, %d, %v", name, l, b, ok, s.Fenced(l), s.Lac(l), s.Dead(l))
		}
	}
	if len(s.Keys()) > 0 || s.Size() != 0 || s.Room() != 0 {
		t.Errorf("%s: %v, %d, %d", name, s.Keys(), s.Size(), s.Room())
	}
}

// some tells a log that has something of all.
func some() model {
	return model{}.with(floorRow(7, 5), fenceRow(5, 3), fenceRow(9, 2), entryRow(api.Key{Ledger: 5, N: 1}, 4, "five"), entryRow(api.Key{Ledger: 9, N: 1}, 8, "nine"))
}

// P12.4, P12.5: a disk that is down: nothing is done, nor told, and the disk stays.
func TestDown(t *testing.T) {
	d := with(t, 1000, some().bytes())
	s := opened(t, d)
	does(t, "a fence that lasts", s, d, some(), fence(1, 5))
	m := does(t, "an entry that waits", s, d, some(), add(9, 2, 0, "x"))
	for _, keep := range []int{0, 1} {
		x := d.Copy()
		y := opened(t, x)
		x.Append("x", []byte("waits"))
		x.Crash(keep, 2)
		none(t, "down", y)
		was := x.Copy()
		x.Start()
		was.Start()
		if !slices.Equal(x.Names(), was.Names()) || x.Bytes() != was.Bytes() {
			t.Errorf("changed while down: %q, %d bytes", x.Names(), x.Bytes())
		}
		opens(t, "up again", x, m)
	}
	d.Crash(0, 0)
	none(t, "down", s)
	d.Wipe()
	none(t, "down, and wiped", s)
}

// P12.5: a store that Open did not make.
func TestNotMade(t *testing.T) {
	none(t, "nil", nil)
	none(t, "a zero one", &store.Store{})
	none(t, "new", new(store.Store))
	d := with(t, 1000, some().bytes())
	s := opened(t, d)
	copied := *s
	none(t, "a copied one", &copied)
	is(t, "the other one", s, d, some())
}

// P12.5: a store of no use ends each call, and another one is opened.
func TestOfNoUse(t *testing.T) {
	r := rand.New(rand.NewPCG(12, 3))
	for i := range 300 {
		d := with(t, 1000, some().bytes())
		s := opened(t, d)
		s.Add(api.Key{Ledger: 9, N: 2}, 0, []byte("x"))
		if i%2 == 0 {
			d.Wipe()
		} else {
			crashed(t, d, 0, r.IntN(9))
		}
		if i%3 == 0 {
			x := opened(t, d)
			x.Fence(9, 7)
		}
		for range 20 {
			a := drawAsk(r, 9)
			if r.IntN(4) == 0 {
				a = strange(r)
			}
			a.of(s)
			s.Get(a.key)
			s.Fenced(a.ledger)
			s.Lac(a.ledger)
			s.Dead(a.ledger)
			s.Keys()
			s.Size()
			s.Room()
		}
		d.Wipe()
		opens(t, "wiped", d, model{})
	}
}

// P12.5: what is handed in stays, with the room behind its end, and is not kept.
func TestHandedIn(t *testing.T) {
	d := roomy(t, 1000)
	s := opened(t, d)
	long := []byte("entry and more")
	if e := s.Add(api.Key{Ledger: 5, N: 1}, 1, long[:5]); e != api.OK || string(long) != "entry and more" {
		t.Errorf("%d, %q", e, long)
	}
	copy(long, "ENTRY AND MORE")
	m := model{}.with(entryRow(api.Key{Ledger: 5, N: 1}, 1, "entry"))
	is(t, "changed by who handed it in", s, d, m)
	m = does(t, "the same", s, d, m, add(5, 1, 1, "entry"))
	m = does(t, "another ledger", s, d, m, add(2, 1, 1, "x"))
	m = does(t, "and one", s, d, m, add(1, 1, 1, "x"))

	kept := []uint64{5, 2, 5, 3, 2, 1, 77, 78}
	was := slices.Clone(kept)
	m, _ = m.answer(d, free(9, kept[:5]...))
	if e := s.Free(9, kept[:5]...); e != api.OK || !slices.Equal(kept, was) {
		t.Errorf("%d, %v", e, kept)
	}
	clear(kept)
	is(t, "changed by who handed it in", s, d, m)
	m = does(t, "written again", s, d, m, free(9, 5))
	// Of one that lets go of ledgers that it kept what is handed in stays, too.
	m = does(t, "more", s, d, m, add(50, 1, 1, "x"))
	m = does(t, "more", s, d, m, free(60, 5, 50))
	less := []uint64{5, 1, 77}
	m, _ = m.answer(d, free(20, less[:1]...))
	if e := s.Free(20, less[:1]...); e != api.OK || !slices.Equal(less, []uint64{5, 1, 77}) {
		t.Errorf("%d, %v", e, less)
	}
	m = does(t, "less", s, d, m, free(20))
	does(t, "flush", s, d, m, flush())
	opens(t, "anew", crashed(t, d, 0, 0), m)
}

// P12.5: what is answered is new memory.
func TestAnswered(t *testing.T) {
	d := with(t, 1000, some().bytes())
	s := opened(t, d)
	m := does(t, "one more", s, d, some(), add(9, 2, 0, "two"))
	for range 2 {
		for _, k := range m.keys() {
			for range 2 {
				b, _ := s.Get(k)
				clear(b[:cap(b)])
				_ = append(b[:0], "other"...)
			}
		}
		for range 2 {
			keys := s.Keys()
			clear(keys[:cap(keys)])
		}
		is(t, "changed by who was answered", s, d, m)
		m = does(t, "written anew", s, d, m, free(6))
	}
}

// P12.5: two stores of two disks have nothing to do with each other; nor do a disk's copy and what was opened on it.
func TestApart(t *testing.T) {
	d, e := with(t, 1000, some().bytes()), with(t, 1000, some().bytes())
	s, x := opened(t, d), opened(t, e)
	m := does(t, "one", s, d, some(), add(9, 2, 0, "two"))
	m = does(t, "one", s, d, m, free(6))
	is(t, "the other", x, e, some())
	n := does(t, "the other", x, e, some(), fence(9, 9))
	is(t, "the one", s, d, m)
	does(t, "the other", x, e, n, free(10))
	is(t, "the one", s, d, m)
}

// Chance has stores live: they are asked, crash anywhere, and are opened anew.

// lived is what is known of a store from outside, by its answers alone.
type lived struct {
	entries map[api.Key]string // put at any time
	epochs  map[uint64]uint64  // the highest that was asked for
	flushed model              // at the last Flush
	freed   []ask              // Frees since
	gone    map[uint64]bool    // ledgers that went, behind a Flush
	wents   map[uint64]bool    // ledgers that went, perhaps not for ever
}

// begin tells of a store that nothing was done to.
func begin() *lived {
	return &lived{entries: map[api.Key]string{}, epochs: map[uint64]uint64{}, gone: map[uint64]bool{}, wents: map[uint64]bool{}}
}

// heed tells of what was asked of a store, and answered.
func (l *lived) heed(a ask, e api.Errno, now model) {
	switch {
	case e != api.OK:
	case a.what == "add":
		l.entries[a.key] = a.body
	case a.what == "fence":
		l.epochs[a.ledger] = max(l.epochs[a.ledger], a.epoch)
	case a.what == "free":
		l.freed = append(l.freed, a)
	default:
		l.flushed, l.freed = now, nil
		maps.Copy(l.gone, l.wents)
	}
}

// mayGo tells whether a ledger may be gone by what was freed since the last Flush.
func (l *lived) mayGo(ledger uint64) bool {
	return slices.ContainsFunc(l.freed, func(a ask) bool { return ledger < a.below && !slices.Contains(a.kept, ledger) })
}

// holds looks whether a store that was opened behind a crash has all that lasts, and nothing that was not put.
func (l *lived) holds(t *testing.T, name string, s *store.Store) {
	t.Helper()
	for _, k := range l.flushed.keys() {
		want, _ := l.flushed.get(k)
		if b, ok := s.Get(k); !l.mayGo(k.Ledger) && (!ok || string(b) != want) {
			t.Fatalf("%s: %v, that was flushed: %q, %v, not %q", name, k, b, ok, want)
		}
	}
	for _, ledger := range l.flushed.ledgers() {
		if f := s.Fenced(ledger); !l.mayGo(ledger) && f < l.flushed.fence(ledger) {
			t.Fatalf("%s: ledger %d, that was flushed: %d, not %d", name, ledger, f, l.flushed.fence(ledger))
		}
	}
	for _, k := range s.Keys() {
		if b, ok := s.Get(k); !ok || l.entries[k] != string(b) {
			t.Fatalf("%s: %v, that was not put: %q, %v", name, k, b, ok)
		}
	}
	for ledger := range uint64(9) {
		if s.Fenced(ledger) > l.epochs[ledger] {
			t.Fatalf("%s: ledger %d is fenced by %d, not by %d", name, ledger, s.Fenced(ledger), l.epochs[ledger])
		}
	}
}

// P12.6: behind a crash, at any place, all is there that was flushed, and nothing that was not put; of what was put since a beginning is there.
func TestFlushedLasts(t *testing.T) {
	r := rand.New(rand.NewPCG(12, 4))
	met := 0
	for i := range 250 {
		d := roomy(t, one(r, 90, 200, 400, 1000))
		s, l := opened(t, d), begin()
		since := []model{{}} // all logs since the last Flush, one behind the other
		for range 40 {
			a := drawAsk(r, 4)
			m := since[len(since)-1]
			is := does(t, "lives", s, d, m, a)
			_, e := m.answer(d, a)
			l.heed(a, e, is)
			if a.what == "flush" {
				since = nil
			}
			since = append(since, is)
			for keep := range d.Waits() + 2 {
				for _, torn := range []int{0, 1, 7, 8, 9, 12} {
					c := crashed(t, d.Copy(), keep, torn)
					x := opened(t, c)
					l.holds(t, fmt.Sprint(i), x)
					was := func(m model) bool {
						b, _ := c.Read("log")
						return slices.Equal(m.bytes(), b)
					}
					if keep >= d.Waits() && !was(is) || !slices.ContainsFunc(since, was) {
						t.Fatalf("%d, %d: neither of what was there", keep, torn)
					}
					met++
				}
			}
			if r.IntN(20) == 0 {
				d = crashed(t, d, r.IntN(d.Waits()+1), r.IntN(12))
				s = opened(t, d)
				b, _ := d.Read("log")
				at := slices.IndexFunc(since, func(m model) bool { return slices.Equal(m.bytes(), b) })
				if at < 0 {
					t.Fatalf("behind a crash: %x", b)
				}
				since = since[at : at+1]
				l.flushed, l.freed = since[0], nil
			}
		}
	}
	if met < 10000 {
		t.Error(met)
	}
}

// goes looks at a Free: no ledger goes that is kept, or not below, and what goes has nothing, and is dead.
func (l *lived) goes(t *testing.T, s *store.Store, was model, a ask) {
	t.Helper()
	before, dead := was.ledgers(), was.dead
	e := a.of(s)
	for ledger := range uint64(9) {
		has := s.Fenced(ledger) > 0 || slices.ContainsFunc(s.Keys(), func(k api.Key) bool { return k.Ledger == ledger })
		switch {
		case !s.Dead(ledger) && dead(ledger):
			t.Fatalf("%v: ledger %d is dead no more", a, ledger)
		case s.Dead(ledger) && (has || s.Lac(ledger) > 0):
			t.Fatalf("%v: ledger %d is dead, and there", a, ledger)
		case e != api.OK && s.Dead(ledger) != dead(ledger):
			t.Fatalf("%v: refused, and ledger %d is dead", a, ledger)
		case (ledger >= a.below || slices.Contains(a.kept, ledger)) && slices.Contains(before, ledger) && !has:
			t.Fatalf("%v: ledger %d has gone", a, ledger)
		case e == api.OK && ledger < a.below && !slices.Contains(a.kept, ledger) && has:
			t.Fatalf("%v: ledger %d has not gone", a, ledger)
		case slices.Contains(before, ledger) && !has:
			l.wents[ledger] = true
		}
	}
}

// P12.7: a ledger that has gone stays dead, whatever is called, and behind a Flush for ever.
func TestGoneForEver(t *testing.T) {
	r := rand.New(rand.NewPCG(12, 5))
	gone, crashes := 0, 0
	for range 600 {
		d := roomy(t, one(r, 200, 400, 1000))
		s, l := opened(t, d), begin()
		m, lasts := model{}, model{}
		for range 60 {
			a := drawAsk(r, 6)
			if a.what == "free" {
				next, _ := m.answer(d, a)
				l.goes(t, s, m, a)
				m = next
			} else {
				m = does(t, "lives", s, d, m, a)
			}
			if a.what == "flush" {
				lasts = m
				maps.Copy(l.gone, l.wents)
			}
			for ledger := range l.wents {
				if e := s.Add(api.Key{Ledger: ledger, N: 1}, 0, nil); e != api.ErrStale || !s.Dead(ledger) {
					t.Fatalf("ledger %d is there again: %d", ledger, e)
				}
				if e := s.Fence(ledger, top); e != api.ErrStale || s.Fenced(ledger) != 0 {
					t.Fatalf("ledger %d is fenced: %d", ledger, e)
				}
			}
			if r.IntN(15) == 0 {
				d = crashed(t, d, 0, r.IntN(12))
				s = opened(t, d)
				if b, _ := d.Read("log"); slices.Equal(b, lasts.bytes()) {
					m = lasts
				} else {
					m = logOf(t, b)
				}
				lasts = m
				l.wents = maps.Clone(l.gone)
				for ledger := range l.gone {
					gone++
					if !s.Dead(ledger) || s.Add(api.Key{Ledger: ledger, N: 1}, 0, nil) != api.ErrStale || s.Fence(ledger, 9) != api.ErrStale {
						t.Fatalf("ledger %d is dead no more", ledger)
					}
				}
				crashes++
			}
		}
	}
	if gone < 1000 || crashes < 1000 {
		t.Error(gone, crashes)
	}
}

// logOf tells the log that has those bytes.
func logOf(t *testing.T, b []byte) model {
	t.Helper()
	var m model
	for len(b) > 0 {
		n := 8 + int(b[0]) + int(b[1])<<8
		r, ok := rowOf(b[8:n])
		if !ok {
			t.Fatalf("%x", b)
		}
		m, b = m.with(r), b[n:]
	}
	return m
}

// P12.7: who was fenced off from a ledger that went never finds it unfenced.
func TestNeverUnfenced(t *testing.T) {
	for _, kept := range [][]uint64{nil, {3}, {1, 3}} {
		d := roomy(t, 400)
		s := opened(t, d)
		m := model{}
		for _, a := range []ask{fence(2, 5), add(3, 1, 0, "x"), free(3, kept...), flush(), add(2, 1, 0, "x"), fence(2, 4), fence(2, 9), free(2), free(3, 1, 2, 3)} {
			m = does(t, "fenced off", s, d, m, a)
		}
		does(t, "flush", s, d, m, flush())
		d = crashed(t, d, 0, 0)
		s = opens(t, "anew", d, m)
		for _, a := range []ask{add(2, 1, 0, "x"), fence(2, 6), free(9, 2), fence(2, 6), free(2, 2), fence(2, 6), free(top+1, 2), fence(2, 6), add(2, 1, 0, "x")} {
			if m = does(t, "anew", s, d, m, a); !s.Dead(2) || s.Fenced(2) != 0 {
				t.Errorf("%v: ledger 2 is there", a)
			}
		}
	}
}

// P12.8: in a log of entries alone, that is as full of them as may be, fences find room for a sixth of the capacity.
func TestFencesFindRoom(t *testing.T) {
	r := rand.New(rand.NewPCG(12, 6))
	fences := 0
	for capacity := range 700 {
		d := roomy(t, capacity)
		s := opened(t, d)
		for n := uint64(1); n < 60; n++ {
			s.Add(api.Key{Ledger: 1 + n%5, N: n}, 0, make([]byte, r.IntN(9)))
		}
		// No room is left for the least entry.
		if s.Room() >= 13 {
			t.Fatalf("%d: %d bytes, room for %d", capacity, s.Size(), s.Room())
		}
		size, wide := 0, one(r, 0, 10, 40)
		for i := uint64(1); ; i++ {
			a := fence(1+i%3, i<<wide)
			size += len(record(fenceRow(a.ledger, a.epoch).payload()))
			if 6*size > capacity {
				break
			}
			if e := a.of(s); e != api.OK || s.Fenced(a.ledger) != a.epoch {
				t.Fatalf("%d: %v: %d", capacity, a, e)
			}
			fences++
		}
	}
	if fences < 1000 {
		t.Error(fences)
	}
}

// Words: a third is for entries, a half for these and fences, so that there is room for a log that is written anew.
func TestFreeFindsRoom(t *testing.T) {
	for capacity := 60; capacity < 700; capacity++ {
		d := roomy(t, capacity)
		s := opened(t, d)
		for n := uint64(1); s.Add(api.Key{Ledger: 1, N: n}, 0, nil) == api.OK; n++ {
		}
		for i := uint64(1); s.Fence(2, i) == api.OK; i++ {
		}
		if e := s.Free(3); e != api.OK || len(s.Keys()) > 0 || s.Size() != 11 {
			t.Fatalf("%d: %d, %d bytes", capacity, e, s.Size())
		}
	}
}
