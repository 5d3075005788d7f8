package store_test

import (
	"fmt"
	"math/rand/v2"
	"slices"
	"strings"
	"testing"

	"scrivener/api"
	"scrivener/disk"
)

// The examples of the chapter.
func TestExamples(t *testing.T) {
	d := roomy(t, 300)
	s := opened(t, d)
	m := model{}
	for i, c := range []struct {
		a    ask
		want api.Errno
	}{
		{add(1, 1, 0, "ab"), api.OK}, {add(1, 1, 0, "ab"), api.OK}, {add(1, 1, 0, "c"), api.ErrState},
		{fence(1, 5), api.OK}, {fence(1, 4), api.OK}, {flush(), api.OK}, {add(1, 2, 1, "c"), api.OK},
	} {
		if _, e := m.answer(d, c.a); e != c.want {
			t.Errorf("%d: the model: %d", i, e)
		}
		m = does(t, fmt.Sprint(i), s, d, m, c.a)
		if i == 2 && s.Size() != 15 {
			t.Errorf("%d bytes", s.Size())
		}
	}
	if s.Fenced(1) != 5 || s.Fenced(2) != 0 {
		t.Error(s.Fenced(1), s.Fenced(2))
	}
	d = crashed(t, d, 0, 3)
	if n := d.Size("log"); n != 15+11+3 {
		t.Errorf("the crash left %d bytes", n)
	}
	s = opened(t, d)
	if k := s.Keys(); !slices.Equal(k, []api.Key{{Ledger: 1, N: 1}}) {
		t.Errorf("behind the crash: %v", k)
	}
	if e := s.Free(2); e != api.OK || len(s.Keys()) != 0 || s.Fenced(1) != 0 {
		t.Errorf("Free: %d, %v, %d", e, s.Keys(), s.Fenced(1))
	}
	if e, f := s.Add(api.Key{Ledger: 1, N: 1}, 0, []byte("ab")), s.Fence(1, 9); e != api.ErrStale || f != api.ErrStale {
		t.Error(e, f)
	}
}

// line is a call with what it answers.
type line struct {
	ask  ask
	want api.Errno
}

// plays has calls done on a store of a log, and looks at each; it tells the log then.
func plays(t *testing.T, name string, d *disk.Disk, m model, lines ...line) model {
	t.Helper()
	s := opened(t, d)
	for i, l := range lines {
		if _, e := m.answer(d, l.ask); e != l.want {
			t.Errorf("%s, %d: %v: the model: %d, not %d", name, i, l.ask, e, l.want)
		}
		m = does(t, fmt.Sprint(name, ", ", i), s, d, m, l.ask)
	}
	does(t, name, s, d, m, flush())
	opens(t, name+", anew", crashed(t, d, 0, 0), m)
	return m
}

// P12.2: which keys, lacs, ledgers and epochs may be.
func TestNumbers(t *testing.T) {
	for _, x := range []uint64{0, 1, 2, 127, 128, top - 1, top, top + 1, 1 << 62, 1 << 63, 1<<64 - 1} {
		may := api.OK
		if x < 1 || x > top {
			may = api.ErrArg
		}
		lac := api.OK
		if x > top {
			lac = api.ErrArg
		}
		plays(t, "numbers", roomy(t, 1000), model{},
			line{add(x, 7, 1, "a"), may}, line{add(7, x, 1, "a"), may}, line{add(8, 8, x, "a"), lac}, line{add(x, x, x, "a"), may},
			line{fence(x, 1), may}, line{fence(9, x), may}, line{fence(x, x), may})
	}
}

// P12.2: how long an entry may be.
func TestLong(t *testing.T) {
	for n := range 400 {
		want := api.OK
		if n > 200 {
			want = api.ErrLong
		}
		plays(t, "long", roomy(t, 2000), model{}, line{add(1, 1, 0, strings.Repeat("x", n)), want}, line{add(1, 1, 0, strings.Repeat("x", n)), want})
	}
}

// P12.2: an entry that is there stays as it is, with its lac; with other bytes it is refused.
func TestAddThere(t *testing.T) {
	m := plays(t, "there", roomy(t, 1000), model{},
		line{add(1, 1, 3, "ab"), 0}, line{add(1, 1, 9, "ab"), 0}, line{add(1, 1, 3, "ac"), 5}, line{add(1, 1, 3, ""), 5}, line{add(1, 1, 3, "a"), 5},
		line{add(1, 1, 3, "abc"), 5}, line{add(1, 2, 0, ""), 0}, line{add(1, 2, 9, ""), 0}, line{add(1, 2, 0, "x"), 5}, line{add(2, 1, 0, "ac"), 0})
	if len(m.rows) != 3 || m.lac(1) != 3 {
		t.Errorf("%v", m)
	}
}

// P12.2: a fence that is no higher is there already.
func TestFenceThere(t *testing.T) {
	m := plays(t, "there", roomy(t, 1000), model{},
		line{fence(1, 3), 0}, line{fence(1, 3), 0}, line{fence(1, 2), 0}, line{fence(1, 4), 0}, line{fence(2, 1), 0}, line{fence(1, top), 0}, line{fence(1, top-1), 0}, line{add(1, 1, 0, ""), 0})
	if len(m.rows) != 5 {
		t.Errorf("%v", m)
	}
}

// P12.2: of several errors the first one.
func TestErrors(t *testing.T) {
	full := model{}.with(floorRow(5, 2), entryRow(api.Key{Ledger: 2, N: 1}, 0, "ab"), entryRow(api.Key{Ledger: 3, N: 1}, 0, "ab"), fenceRow(2, 5))
	long := strings.Repeat("x", 201)
	d := with(t, len(full.bytes())+20, full.bytes())
	plays(t, "errors", d, full,
		line{add(0, 1, 0, long), 1}, line{add(3, 0, 0, long), 1}, line{add(3, 1, top+1, long), 1}, line{add(3, 1, top+1, "ab"), 1}, line{add(2, 1, top+1, "c"), 1},
		line{add(3, 1, 0, long), 7}, line{add(2, 1, 0, long), 7}, line{add(9, 1, 0, long), 7},
		line{add(3, 1, 0, "ab"), 8}, line{add(3, 1, 0, "c"), 8}, line{add(3, 2, 0, ""), 8}, line{add(1, 1, 0, strings.Repeat("x", 200)), 8},
		line{add(2, 1, 0, "c"), 5}, line{add(2, 1, 0, "ab"), 0}, line{add(2, 2, 0, ""), 3}, line{add(5, 1, 0, ""), 3},
		line{fence(0, 1), 1}, line{fence(3, 0), 1}, line{fence(3, top+1), 1}, line{fence(2, 0), 1}, line{fence(2, top+1), 1},
		line{fence(3, 1), 8}, line{fence(4, top), 8}, line{fence(2, 5), 0}, line{fence(2, 6), 3}, line{fence(5, 1), 3},
		line{free(0, rising(65)...), 7}, line{free(9, rising(65)...), 7}, line{free(9, slices.Repeat([]uint64{2}, 65)...), 7},
		line{free(4, 2), 3}, line{free(9, 1, 2, 3, 4, 5, 6, 7, 8), 3})
	if d.Waits() != 0 {
		t.Errorf("%d wait", d.Waits())
	}
}

// P12.2: entries are written as long as the log has at most a third, fences at most a half, rounded down.
func TestThirdAndHalf(t *testing.T) {
	entry, sign := record(entryRow(api.Key{Ledger: 1, N: 1}, 0, "ab").payload()), record(fenceRow(1, 5).payload())
	for capacity := range 200 {
		// What is there already, by a fence or none: that it is a fence plays no part.
		for _, m := range []model{{}, model{}.with(fenceRow(9, 1)), model{}.with(fenceRow(9, 1), fenceRow(9, 200))} {
			n := len(m.bytes())
			if n > capacity {
				continue
			}
			e, f := api.OK, api.OK
			if n+len(entry) > capacity/3 {
				e = api.ErrFull
			}
			if n+len(sign) > capacity/2 {
				f = api.ErrFull
			}
			plays(t, "an entry", with(t, capacity, m.bytes()), m, line{add(1, 1, 0, "ab"), e}, line{add(1, 1, 0, "ab"), e})
			plays(t, "a fence", with(t, capacity, m.bytes()), m, line{fence(1, 5), f}, line{fence(1, 5), f})
		}
	}
}

// P12.2: a disk that is full of others has no room, however short the log is; what is refused changes nothing.
func TestOthersFill(t *testing.T) {
	for left := range 40 {
		d := roomy(t, 300)
		d.Append("x", make([]byte, 300-left))
		e, f := api.OK, api.OK
		if left < 15 {
			e = api.ErrFull
		}
		if left < 11 || e == api.OK && left < 26 {
			f = api.ErrFull
		}
		plays(t, "others", d, model{}, line{add(1, 1, 0, "ab"), e}, line{fence(1, 5), f})
	}
}

// P12.3: which ledgers go by a Free, and what the floor is then; kept ones stay, and dead ones stay dead.
func TestFree(t *testing.T) {
	m := model{}
	for l := range uint64(6) {
		m = m.with(entryRow(api.Key{Ledger: l + 1, N: 2}, l, "b"), entryRow(api.Key{Ledger: l + 1, N: 1}, 2*l, "a"), fenceRow(l+1, 2), fenceRow(l+1, 7-l))
	}
	for name, c := range map[string]struct {
		asks  []ask
		floor row
	}{
		"some":                        {[]ask{free(3)}, floorRow(3)},
		"some are kept":               {[]ask{free(4, 2, 9, 3, 0, 4, 2)}, floorRow(4, 2, 3)},
		"all":                         {[]ask{free(7)}, floorRow(7)},
		"all, by far":                 {[]ask{free(top+1, 5, top)}, floorRow(top+1, 5, top)},
		"beyond the end":              {[]ask{free(1<<64-1, 5, top, top+1, 1<<63)}, floorRow(top+1, 5, top)},
		"at the end":                  {[]ask{free(top, top, top-1)}, floorRow(top, top-1)},
		"none":                        {[]ask{free(1)}, row{}},
		"none below":                  {[]ask{free(0, 1)}, row{}},
		"all are kept":                {[]ask{free(7, 1, 2, 3, 4, 5, 6)}, row{}},
		"none, then some":             {[]ask{free(3, 1, 2), free(2)}, floorRow(2)},
		"further on":                  {[]ask{free(3, 1), free(5, 4, 1, 2)}, floorRow(5, 1, 4)},
		"dead ones are not kept":      {[]ask{free(4, 2), free(4, 1, 3)}, floorRow(4)},
		"the same once more":          {[]ask{free(4, 2), free(4, 2)}, floorRow(4, 2)},
		"the same, kept less":         {[]ask{free(4, 1, 2), free(4, 1)}, floorRow(4, 1)},
		"lesser":                      {[]ask{free(5, 1, 3), free(3)}, floorRow(5, 3)},
		"lesser, among kept":          {[]ask{free(5, 1, 2, 3), free(3, 2, 7)}, floorRow(5, 2, 3)},
		"lesser, at one kept":         {[]ask{free(5, 1, 2), free(2)}, floorRow(5, 2)},
		"lesser, none goes":           {[]ask{free(5, 1, 3), free(3, 1)}, floorRow(5, 1, 3)},
		"of none":                     {[]ask{free(5, 1, 3), free(0)}, floorRow(5, 1, 3)},
		"of none, and more are kept":  {[]ask{free(5, 1), free(1, 1, 2, 9)}, floorRow(5, 1)},
		"further, but nothing is":     {[]ask{free(7, 3), free(100, 3)}, floorRow(7, 3)},
		"further, nothing, then more": {[]ask{free(7, 3), free(100, 3), add(50, 1, 0, "x"), free(100, 3)}, floorRow(100, 3)},
		"what is put again":           {[]ask{free(3), add(2, 1, 0, "x"), fence(2, 50), add(3, 3, 0, "x"), free(4)}, floorRow(4)},
	} {
		d := with(t, 1000, m.bytes())
		s := opened(t, d)
		is := m
		for _, a := range c.asks {
			is = does(t, name, s, d, is, a)
		}
		if got := is.rows[0]; c.floor.kind == 3 && (got.kind != 3 || !slices.Equal(got.nums, c.floor.nums)) || c.floor.kind == 0 && got.kind == 3 {
			t.Errorf("%s: the model: %v, not %v", name, got, c.floor)
		}
		does(t, name, s, d, is, flush())
		opens(t, name+", anew", crashed(t, d, 0, 0), is)
	}
}

// P12.3: a ledger goes for its fence alone, or for its entries alone; what is put later, too.
func TestFreeOfOne(t *testing.T) {
	for name, asks := range map[string][]ask{
		"an entry":     {add(1, 1, 0, "a")},
		"a fence":      {fence(1, 1)},
		"both":         {add(1, 1, 0, "a"), fence(1, 1)},
		"many entries": {add(1, 1, 0, "a"), add(1, 2, 0, "b"), add(1, 9, 0, "b")},
		"none":         {},
	} {
		d := roomy(t, 300)
		s := opened(t, d)
		m := does(t, name, s, d, model{}, add(2, 1, 0, "other"))
		for _, a := range asks {
			m = does(t, name, s, d, m, a)
		}
		was := m
		m = does(t, name, s, d, m, free(2))
		if s.Dead(1) == (len(asks) == 0) || s.Dead(2) {
			t.Errorf("%s: %v, %v", name, s.Dead(1), s.Dead(2))
		}
		if len(asks) == 0 && len(was.bytes()) != s.Size() {
			t.Errorf("%s: %d bytes", name, s.Size())
		}
		m = does(t, name, s, d, m, add(1, 1, 0, "a"))
		does(t, name, s, d, m, fence(1, 9))
	}
}

// P12.3: how many may be kept; each counts that is handed in.
func TestFreeKept(t *testing.T) {
	for _, n := range []int{0, 1, 63, 64, 65, 66, 1000} {
		want := api.OK
		if n > 64 {
			want = api.ErrLong
		}
		down := rising(n)
		slices.Reverse(down)
		for _, kept := range [][]uint64{rising(n), down, slices.Repeat([]uint64{2}, n), slices.Repeat([]uint64{0}, n)} {
			m := plays(t, "kept", roomy(t, 3000), model{}, line{add(99, 1, 0, ""), 0}, line{add(1, 1, 0, ""), 0}, line{free(100, kept...), want}, line{free(100, kept...), want})
			if (m.rows[0].kind == 3) != (n <= 64) {
				t.Errorf("%d: %v", n, m.rows[0])
			}
		}
	}
}

// P12.3: the log is written anew beside the old one: where there is no room for it, nothing is done.
func TestFreeFull(t *testing.T) {
	m := model{}.with(fenceRow(1, 1), entryRow(api.Key{Ledger: 5, N: 1}, 0, "abcdef"), fenceRow(9, 3))
	for _, kept := range [][]uint64{nil, {5}, {5, 6, 7, 8}} {
		next, _ := m.answerFree(with(t, 1000, m.bytes()), free(6, kept...))
		for _, more := range []int{-1000, -20, -1, 0, 1, 20} {
			for _, other := range []int{0, 30} {
				for _, old := range []int{0, 7} {
					capacity := max(len(m.bytes())+len(next.bytes())+more, len(m.bytes())) + other + old
					d := with(t, capacity, m.bytes())
					d.Append("x", make([]byte, other))
					s := opened(t, d)
					d.Append("log.new", make([]byte, old))
					is := does(t, fmt.Sprint(more, other, old), s, d, m, free(6, kept...))
					if want := more+old >= 0; (is.rows[0].kind == 3) != want {
						t.Errorf("%d, %d, %d: %v", more, other, old, is.rows[0])
					}
				}
			}
		}
	}
}

// P12.4: Room is what is left to a third.
func TestRoom(t *testing.T) {
	for capacity := range 120 {
		for _, m := range []model{{}, model{}.with(fenceRow(1, 1)), model{}.with(fenceRow(1, 1), fenceRow(1, 2))} {
			n := len(m.bytes())
			if n > capacity {
				continue
			}
			s := opened(t, with(t, capacity, m.bytes()))
			if s.Size() != n || s.Room() != max(0, capacity/3-n) {
				t.Errorf("%d of %d: %d, %d", n, capacity, s.Size(), s.Room())
			}
		}
	}
}

// P12.2 to P12.4: whatever is asked: what the words say, behind crashes, too.
func TestDrawn(t *testing.T) {
	r := rand.New(rand.NewPCG(12, 2))
	seen := map[api.Errno]int{}
	freed := 0
	for range 1500 {
		capacity := one(r, 30, 90, 150, 300, 600, 3000)
		d := roomy(t, capacity)
		m := model{}
		if x := drawRows(r); r.IntN(2) == 0 && d.Put("log", x.bytes()) == api.OK {
			m = x
		}
		s := opens(t, "drawn", d, m)
		lasts := m
		for range 40 {
			switch r.IntN(40) {
			case 0:
				d = crashed(t, d, 0, 0)
				m = lasts
				s = opens(t, "behind a crash", d, m)
			case 1:
				d = crashed(t, d, d.Waits(), 0)
				s = opens(t, "behind a crash that keeps all", d, m)
				lasts = m
			case 2:
				s = opens(t, "another one", d, m)
				lasts = m
			case 3:
				d.Append(one(r, "x", "log.new"), make([]byte, r.IntN(20)))
			case 4:
				d.Remove("x")
			}
			a := drawAsk(r, 4)
			if r.IntN(8) == 0 {
				a = strange(r)
			}
			_, e := m.answer(d, a)
			seen[e]++
			was := m
			m = does(t, "drawn", s, d, m, a)
			if a.what == "flush" {
				lasts = m
			}
			if a.what == "free" && len(was.ledgers()) != len(m.ledgers()) {
				freed++
			}
		}
	}
	for _, e := range []api.Errno{api.OK, api.ErrArg, api.ErrLong, api.ErrStale, api.ErrState, api.ErrFull} {
		if seen[e] < 100 {
			t.Errorf("%d comes %d times", e, seen[e])
		}
	}
	if freed < 1000 {
		t.Error(freed)
	}
}
