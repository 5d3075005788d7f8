package entry_test

import (
	"bytes"
	"cmp"
	"math/rand/v2"
	"slices"
	"testing"

	"scrivener/api"
	"scrivener/entry"
)

// P11.4: an entry that is handed in stays, the room behind its bytes too, and its bytes are not those that are answered.
func TestEntriesStay(t *testing.T) {
	room := []byte("abcdefgh")
	e := api.Entry{Producer: 2, Seq: 300, Body: room[:3]}
	b, _ := entry.Encode(e)
	c, _ := entry.Encode(e)
	entry.May(e)
	entry.Same(e, api.Entry{Producer: 2, Seq: 300, Body: room[4:6]})
	for i := range b {
		b[i] ^= 0xff
	}
	b = append(b, 'z')
	if string(room) != "abcdefgh" || !bytes.Equal(c, written(e)) {
		t.Errorf("bytes that are changed to %x make %q, %x", b, room, c)
	}
	clear(room)
	if string(c[len(c)-3:]) != "abc" {
		t.Errorf("an entry that is changed makes %x of its bytes", c)
	}
}

// P11.4: bytes that are handed in stay, the room behind them too, and are not those of the entry that is answered.
func TestBytesStay(t *testing.T) {
	for _, body := range []string{"", "a", "abc", text(64, 1)} {
		b := written(made(2, 300, body))
		room := append(slices.Clone(b), "behind"...)
		was := slices.Clone(room)
		e, _ := entry.Decode(room[:len(b)])
		f, _ := entry.Decode(room[:len(b)])
		for i := range e.Body {
			e.Body[i] ^= 0xff
		}
		e.Body = append(e.Body, 'z')
		e.Body = append(e.Body[:cap(e.Body)], 'z')
		if !bytes.Equal(room, was) || !alike(f, made(2, 300, body)) {
			t.Errorf("an entry that is changed makes %q, %s", room, tell(f))
		}
		clear(room)
		if !alike(f, made(2, 300, body)) {
			t.Errorf("bytes that are changed make %s", tell(f))
		}
	}
}

// P11.4: bytes that say nothing stay, too.
func TestSpoiltBytesStay(t *testing.T) {
	for _, s := range []string{"\x01\x01\x02a", "\x10\x01\x00", "\x01\x00\x01a", "\x01\x01\x01ab", "\x01\x01\x41" + text(65, 1)} {
		b := []byte(s)
		if refused(t, b); string(b) != s {
			t.Errorf("%x is made %x", s, b)
		}
	}
}

// P11.4: a row of keys that is handed in stays, the room behind its end too, and shares nothing with what is answered.
func TestKeysStay(t *testing.T) {
	for _, row := range [][]api.Key{
		{key(3, 1), key(1, 2), key(3, 1), key(1, 1), key(9, 9), key(0, 0)},
		{key(1, 1), key(1, 2), key(1, 3), key(1, 4), key(9, 9), key(0, 0)},
		{key(1, 1), key(1, 1), key(1, 1), key(1, 1), key(9, 9), key(0, 0)},
	} {
		for size := range 5 {
			l := slices.Clone(row)
			want := inOrder(l[:size])
			sorted, other := entry.Sort(l[:size]...), entry.Sort(l[:size]...)
			clear(sorted)
			sorted = append(sorted, key(8, 8))
			clear(append(sorted[:cap(sorted)], key(7, 7)))
			if !slices.Equal(l, row) || !slices.Equal(other, want) {
				t.Errorf("Sort of %d: %v, %v", size, l, other)
			}
			clear(l)
			if !slices.Equal(other, want) {
				t.Errorf("keys that are changed make %v of what was answered", other)
			}
		}
	}
}

// P11.5: an entry that may be is decoded from its bytes.
func TestThereAndBack(t *testing.T) {
	there := 0
	grid(func(e api.Entry, may bool) {
		b, code := entry.Encode(e)
		if code != api.OK {
			return
		}
		there++
		f, code := entry.Decode(b)
		if !may || code != api.OK || !alike(e, f) || !entry.Same(e, f) || !entry.May(f) {
			t.Errorf("%s: %x, %s, %d", tell(e), b, tell(f), code)
		}
	})
	if there == 0 {
		t.Error("none has bytes")
	}
}

// P11.5: bytes that are decoded are those of the entry, whatever they are.
func TestBackAndThere(t *testing.T) {
	d := rand.New(rand.NewPCG(11, 5))
	there := 0
	for range 200000 {
		b := make([]byte, 3+d.IntN(5))
		for i := range b {
			b[i] = byte(d.Uint32())
		}
		b[0] %= 18
		if d.IntN(2) == 0 {
			b[1], b[2] = b[1]%128, byte(len(b)-3)
		}
		e, code := entry.Decode(b)
		if code != api.OK {
			continue
		}
		there++
		if back, code := entry.Encode(e); code != api.OK || !bytes.Equal(back, b) {
			t.Fatalf("%x: %s, %x, %d", b, tell(e), back, code)
		}
	}
	if there < 1000 {
		t.Errorf("%d were entries", there)
	}
}

// P11.5: unlike entries have unlike bytes, none of which are a beginning of another one's.
func TestNoBeginnings(t *testing.T) {
	type pair struct {
		e api.Entry
		b []byte
	}
	var l []pair
	for _, e := range few() {
		b, code := entry.Encode(e)
		if code != api.OK {
			t.Fatalf("%s: %d", tell(e), code)
		}
		l = append(l, pair{e, b})
	}
	for i, p := range l {
		for k, q := range l {
			if i != k && (entry.Same(p.e, q.e) || bytes.HasPrefix(p.b, q.b)) {
				t.Fatalf("%s and %s: %x and %x", tell(p.e), tell(q.e), p.b, q.b)
			}
		}
	}
}

// P11.6: two unlike keys stand one way, the other way round the other way.
func TestOrder(t *testing.T) {
	for a := range keys() {
		for b := range keys() {
			if x, y := entry.Cmp(a, b), entry.Cmp(b, a); x != -y || (x == 0) != (a == b) || x < -1 || x > 1 {
				t.Fatalf("%v and %v: %d, %d", a, b, x, y)
			}
		}
	}
}

// P11.6: what is ahead of what is ahead is ahead.
func TestAheadOfAhead(t *testing.T) {
	d := rand.New(rand.NewPCG(11, 6))
	var l []api.Key
	for k := range keys() {
		l = append(l, k)
	}
	slices.SortFunc(l, func(a, b api.Key) int { return cmp.Or(cmp.Compare(a.N, b.N), cmp.Compare(a.Ledger, b.Ledger)) })
	for range 300000 {
		a, b, c := l[d.IntN(len(l))], l[d.IntN(len(l))], l[d.IntN(len(l))]
		if entry.Cmp(a, b) < 0 && entry.Cmp(b, c) < 0 && entry.Cmp(a, c) >= 0 {
			t.Fatalf("%v, %v, %v", a, b, c)
		}
	}
}

// P11.6: a key's Next may be, is behind it, and no key is between.
func TestNextIsBehind(t *testing.T) {
	all := keys()
	for k := range all {
		n, ok := entry.Next(k)
		if !ok {
			continue
		}
		if !entry.MayKey(n) || entry.Cmp(k, n) != -1 {
			t.Errorf("%v is not behind %v", n, k)
		}
		for x := range all {
			if entry.Cmp(k, x) < 0 && entry.Cmp(x, n) < 0 {
				t.Fatalf("%v is between %v and %v", x, k, n)
			}
		}
	}
}

// P11.6: what is sorted rises, has each key that was handed in, and no other; sorted once more it stays.
func TestSortedRises(t *testing.T) {
	d := rand.New(rand.NewPCG(11, 7))
	for range 2000 {
		var l []api.Key
		for range d.IntN(200) {
			l = append(l, key(d.Uint64N(9), d.Uint64N(9)))
		}
		sorted := entry.Sort(l...)
		for i := range sorted {
			if i > 0 && entry.Cmp(sorted[i-1], sorted[i]) != -1 {
				t.Fatalf("%v ahead of %v", sorted[i-1], sorted[i])
			}
			if !slices.Contains(l, sorted[i]) {
				t.Fatalf("%v comes of nothing", sorted[i])
			}
		}
		for _, k := range l {
			if !slices.Contains(sorted, k) {
				t.Fatalf("%v is not there", k)
			}
		}
		sorts(t, sorted, sorted...)
	}
}
