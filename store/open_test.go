package store_test

import (
	"fmt"
	"math/rand/v2"
	"slices"
	"strings"
	"testing"

	"scrivener/api"
	"scrivener/disk"
	"scrivener/store"
)

// refused looks whether Open answers that, and changes nothing.
func refused(t *testing.T, name string, d *disk.Disk, want api.Errno) {
	t.Helper()
	was := d.Copy()
	if s, e := store.Open(d); s != nil || e != want {
		t.Errorf("%s: Open: %v, %d, not %d", name, s, e, want)
	}
	if was == nil {
		return
	}
	if d.Waits() != was.Waits() || !slices.Equal(d.Names(), was.Names()) || d.Down() != was.Down() || d.Serial() != was.Serial() {
		t.Errorf("%s: the disk was changed: %q, %d wait", name, d.Names(), d.Waits())
	}
	for _, f := range was.Names() {
		x, _ := d.Read(f)
		if y, _ := was.Read(f); !slices.Equal(x, y) {
			t.Errorf("%s: %s: %x, not %x", name, f, x, y)
		}
	}
}

// opens looks whether a store of that log is told, and the disk is synced, with that log and no new one.
func opens(t *testing.T, name string, d *disk.Disk, m model) *store.Store {
	t.Helper()
	was := d.Copy()
	s := opened(t, d)
	is(t, name, s, d, m)
	if d.Waits() != 0 {
		t.Errorf("%s: %d wait", name, d.Waits())
	}
	names := slices.DeleteFunc(was.Names(), func(s string) bool { return s == "log.new" })
	if !slices.Equal(d.Names(), names) {
		t.Errorf("%s: %q, not %q", name, d.Names(), names)
	}
	return s
}

// P12.1: a disk that is down; that goes ahead of what stands there.
func TestOpenDown(t *testing.T) {
	refused(t, "none", nil, api.ErrDown)
	refused(t, "a zero one", &disk.Disk{}, api.ErrDown)
	copied := *roomy(t, 100)
	refused(t, "a copied one", &copied, api.ErrDown)
	good := model{}.with(fenceRow(1, 5))
	for _, b := range [][]byte{nil, record(nil), good.bytes()} {
		d := with(t, 100, b)
		d.Append("log.new", []byte("x"))
		d.Crash(9, 9)
		refused(t, "down", d, api.ErrDown)
		d.Start()
		if len(b) == 8 {
			refused(t, "up again", d, api.ErrForm)
			continue
		}
		m := model{}
		if len(b) > 0 {
			m = good
		}
		opens(t, "up again", d, m)
	}
}

// P12.1: a disk without a log has a store that has nothing, and no log comes by it.
func TestOpenNew(t *testing.T) {
	for _, capacity := range []int{0, 1, 100, 65536} {
		opens(t, "new", roomy(t, capacity), model{})
		opens(t, "a log of no bytes", with(t, capacity, nil), model{})
	}
	d := roomy(t, 100)
	d.Append("log.old", []byte("none"))
	d.Append("lo", record(nil))
	opens(t, "others", d, model{})
}

// P12.1: what is written anew, and was not given the name, is removed, whatever it is; what waits lasts then.
func TestOpenNewLog(t *testing.T) {
	m := model{}.with(entryRow(api.Key{Ledger: 1, N: 1}, 0, "ab"))
	other := model{}.with(floorRow(2), fenceRow(2, 2))
	for _, b := range [][]byte{nil, []byte("torn"), other.bytes()} {
		for _, synced := range []bool{false, true} {
			d := with(t, 200, m.bytes())
			d.Put("log.new", b)
			d.Append("x", []byte("waits"))
			if synced {
				d.Sync()
			}
			opens(t, "beside a log", d, m)
			opens(t, "behind a crash", crashed(t, d, 0, 0), m)
			if b, e := d.Read("x"); e != api.OK || string(b) != "waits" {
				t.Errorf("another file: %q, %d", b, e)
			}
			d = roomy(t, 200)
			d.Put("log.new", b)
			opens(t, "no log", d, model{})
			opens(t, "no log, behind a crash", crashed(t, d, 0, 0), model{})
		}
	}
}

// P12.1: of a log that ends behind its records they alone stay.
func TestOpenTorn(t *testing.T) {
	m := model{}
	for _, r := range []row{floorRow(3, 1), fenceRow(1, 5), entryRow(api.Key{Ledger: 3, N: 1}, 4, "abc"), fenceRow(9, 1)} {
		next := record(r.payload())
		spoilt := slices.Clone(next)
		spoilt[len(spoilt)-1] ^= 1
		tails := [][]byte{{0}, make([]byte, 8), []byte("torn"), spoilt, append(slices.Clone(spoilt), next...)}
		for i := 1; i < len(next); i++ {
			tails = append(tails, next[:i])
		}
		for _, tail := range tails {
			d := with(t, len(m.bytes())+len(tail), append(m.bytes(), tail...))
			opens(t, fmt.Sprintf("%x behind %d rows", tail, len(m.rows)), d, m)
			opens(t, "once more", crashed(t, d, 0, 0), m)
			d = with(t, 400, append(m.bytes(), tail...))
			s := opens(t, "with room", d, m)
			is := does(t, "then", s, d, m, add(5, 1, 2, "behind"))
			does(t, "then", s, d, is, flush())
			opens(t, "and anew", crashed(t, d, 0, 0), is)
		}
		m = m.with(r)
	}
	opens(t, "none is torn", with(t, 400, m.bytes()), m)
}

// forms tells payloads of which no log has one, by what is wrong with them; the first one's form may be good.
func forms() map[string][]byte {
	entry := entryRow(api.Key{Ledger: 1, N: 2}, 3, "abc").payload()
	l := map[string][]byte{
		"none":                          {},
		"a nought":                      {0},
		"another kind":                  {4, 1, 1},
		"the last kind":                 {255, 1, 1},
		"an entry of another kind":      append([]byte{4}, entry[1:]...),
		"an entry of a fence's kind":    append([]byte{2}, entry[1:]...),
		"an entry of a floor's kind":    append([]byte{3}, entry[1:]...),
		"an entry without its end":      entry[:len(entry)-1],
		"an entry with more":            append(slices.Clone(entry), 0),
		"a wide digit":                  {1, 0x81, 0, 2, 3, 0},
		"a fence with more":             {2, 1, 1, 0},
		"a fence without its epoch":     {2, 1},
		"a fence of a wide digit":       {2, 1, 0x81, 0},
		"a floor with more":             {3, 2, 0, 0},
		"a floor with one more":         {3, 3, 1, 1, 2},
		"a floor with one less":         {3, 3, 2, 1},
		"a floor of a number":           {3, 2},
		"a floor of nothing":            {3},
		"a floor of a wide digit":       {3, 0x82, 0, 0},
		"a floor of 65":                 floorRow(100, rising(65)...).payload(),
		"a floor of very many":          append([]byte{3, 100}, 0xff, 0xff, 0xff, 0xff, 0xff, 0xff, 0xff, 0xff, 0xff, 1),
		"a floor of too many for bytes": append([]byte{3, 100}, 64, 1),
	}
	for _, x := range []uint64{0, top + 1, 1 << 63, 1<<64 - 1} {
		l[fmt.Sprint("an entry of ledger ", x)] = entryRow(api.Key{Ledger: x, N: 1}, 1, "").payload()
		l[fmt.Sprint("an entry of number ", x)] = entryRow(api.Key{Ledger: 1, N: x}, 1, "").payload()
		l[fmt.Sprint("a fence of ledger ", x)] = fenceRow(x, 1).payload()
		l[fmt.Sprint("a fence of epoch ", x)] = fenceRow(1, x).payload()
		l[fmt.Sprint("a floor that keeps ", x)] = floorRow(9, x).payload()
		if x > 0 {
			l[fmt.Sprint("an entry of lac ", x)] = entryRow(api.Key{Ledger: 1, N: 1}, x, "").payload()
		}
		if x != top+1 {
			l[fmt.Sprint("a floor of ", x)] = floorRow(x).payload()
		}
	}
	l["a floor of the number behind the last one"] = floorRow(top + 2).payload()
	l["an entry too long"] = entryRow(api.Key{Ledger: 1, N: 1}, 0, strings.Repeat("x", 201)).payload()
	l["an entry much too long"] = entryRow(api.Key{Ledger: 1, N: 1}, 0, strings.Repeat("x", 16000)).payload()
	for _, keeps := range [][]uint64{{9}, {10}, {1, 9}, {0, 1}, {2, 1}, {1, 1}, {1, 3, 2}, {1, 2, 2}, {5, top + 1}} {
		l[fmt.Sprint("a floor of 9 that keeps ", keeps)] = floorRow(9, keeps...).payload()
	}
	return l
}

// rising tells the numbers 1 to n.
func rising(n int) []uint64 {
	var l []uint64
	for i := range n {
		l = append(l, uint64(i+1))
	}
	return l
}

// P12.1: a record that is neither an entry nor a fence, nor a floor, is refused, wherever it stands, and all stays.
func TestOpenForm(t *testing.T) {
	good := model{}.with(fenceRow(1, 5))
	for name, payload := range forms() {
		if r, ok := rowOf(payload); ok && r.may(true) {
			t.Errorf("%s: the model takes it", name)
		}
		for where, b := range map[string][]byte{
			"alone":  record(payload),
			"first":  append(record(payload), good.bytes()...),
			"behind": append(good.bytes(), record(payload)...),
			"torn":   append(append(good.bytes(), record(payload)...), "torn"...),
		} {
			refused(t, name+" "+where, with(t, 65536, b), api.ErrForm)
			d := with(t, 65536, b)
			d.Put("log.new", good.bytes())
			d.Append("x", []byte("waits"))
			refused(t, name+" "+where+", with others", d, api.ErrForm)
		}
	}
	for _, r := range []row{floorRow(1), floorRow(9, 1, 8), floorRow(top+1, top)} {
		opens(t, "a floor", with(t, 1000, model{}.with(r).bytes()), model{}.with(r))
		refused(t, "a floor behind a fence", with(t, 1000, good.with(r).bytes()), api.ErrForm)
		refused(t, "two floors", with(t, 1000, model{}.with(r, r).bytes()), api.ErrForm)
		refused(t, "a floor at the end", with(t, 1000, model{}.with(floorRow(2), fenceRow(3, 3), r).bytes()), api.ErrForm)
	}
	// What is behind torn bytes is told no more: so it may be anything.
	torn := slices.Concat(good.bytes(), []byte{1}, record([]byte{9}))
	opens(t, "behind torn bytes", with(t, 1000, torn), good)
}

// P12.1: rows about all edges that may be are told.
func TestOpenEdges(t *testing.T) {
	m := model{}.with(floorRow(top+1, append(rising(62), top-1, top)...))
	for i, x := range []uint64{1, 2, 127, 128, top - 1, top} {
		m = m.with(entryRow(api.Key{Ledger: x, N: top}, top, strings.Repeat("x", 200-i)))
		m = m.with(entryRow(api.Key{Ledger: top, N: x}, x-1, ""), fenceRow(x, top), fenceRow(top, x))
	}
	opens(t, "edges", with(t, 65536, m.bytes()), m)
	// A log that has more than calls would put is told, too.
	opens(t, "full", with(t, len(m.bytes()), m.bytes()), m)
	for _, n := range []int{0, 1, 63, 64} {
		opens(t, "so many kept", with(t, 65536, model{}.with(floorRow(100, rising(n)...)).bytes()), model{}.with(floorRow(100, rising(n)...)))
	}
}

// Words: of a key the first entry, of a ledger the highest epoch and the highest lac; what is of a dead ledger is there, as the log has it.
func TestOpenTwice(t *testing.T) {
	k := api.Key{Ledger: 1, N: 1}
	l := api.Key{Ledger: 1, N: 2}
	for i, m := range []model{
		model{}.with(entryRow(k, 0, "a"), entryRow(k, 0, "b")),
		model{}.with(entryRow(k, 7, "a"), entryRow(k, 3, "a")),
		model{}.with(entryRow(k, 3, "a"), entryRow(k, 7, "a")),
		model{}.with(entryRow(k, 0, ""), entryRow(k, 1, "b"), entryRow(k, 2, "c")),
		model{}.with(entryRow(l, 9, "a"), entryRow(k, 3, "b"), entryRow(l, 1, "c")),
		model{}.with(entryRow(k, 3, "a"), entryRow(l, 9, "b"), entryRow(api.Key{Ledger: 2, N: 1}, 50, "c")),
		model{}.with(fenceRow(1, 5), fenceRow(1, 4), fenceRow(2, 1), fenceRow(2, 9), fenceRow(2, 3)),
		model{}.with(floorRow(5, 2, 4), entryRow(k, 3, "a"), fenceRow(1, 7), fenceRow(2, 1), entryRow(api.Key{Ledger: 3, N: 1}, 1, "")),
	} {
		d := with(t, 1000, m.bytes())
		s := opens(t, fmt.Sprint(i), d, m)
		for _, a := range []ask{add(1, 1, 0, "a"), add(1, 1, 0, "b"), fence(1, 7), fence(2, 2), free(2), free(9, 1, 2)} {
			m = does(t, fmt.Sprint(i), s, d, m, a)
		}
		does(t, fmt.Sprint(i), s, d, m, flush())
		opens(t, fmt.Sprint(i, ", anew"), crashed(t, d, 0, 0), m)
	}
}

// P12.1: whatever payloads there are, they are told, or refused, as the words say.
func TestOpenDrawn(t *testing.T) {
	r := rand.New(rand.NewPCG(12, 1))
	good, bad := 0, 0
	for range 20000 {
		m := drawRows(r)
		var payloads [][]byte
		for _, x := range m.rows {
			payloads = append(payloads, x.payload())
		}
		if len(payloads) > 0 && r.IntN(2) == 0 {
			p := &payloads[r.IntN(len(payloads))]
			at := r.IntN(len(*p))
			switch r.IntN(4) {
			case 0:
				(*p)[at] = byte(r.IntN(256))
			case 1:
				(*p)[at] = byte(r.IntN(5))
			case 2:
				*p = slices.Insert(*p, at, byte(r.IntN(5)))
			case 3:
				*p = slices.Delete(*p, at, at+1)
			}
		}
		var b []byte
		m, may := model{}, true
		for i, p := range payloads {
			x, ok := rowOf(p)
			may = may && ok && x.may(i == 0)
			m = m.with(x)
			b = append(b, record(p)...)
		}
		tail := record(fenceRow(1, 9).payload())
		d := with(t, 1000, append(b, tail[:r.IntN(len(tail))]...))
		if !may {
			bad++
			refused(t, fmt.Sprintf("%x", b), d, api.ErrForm)
			continue
		}
		good++
		opens(t, fmt.Sprintf("%x", b), d, m)
	}
	if good < 5000 || bad < 3000 {
		t.Error(good, bad)
	}
}
