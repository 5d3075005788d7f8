package entry_test

import (
	"bytes"
	"math"
	"math/rand/v2"
	"slices"
	"testing"

	"scrivener/api"
	"scrivener/entry"
)

// The chapter's examples.
func TestExamples(t *testing.T) {
	b, e := entry.Encode(made(2, 300, "ab"))
	if e != api.OK || !bytes.Equal(b, []byte{2, 0xac, 2, 2, 'a', 'b'}) {
		t.Errorf("Encode: %x, %d", b, e)
	}
	decodes(t, b, made(2, 300, "ab"), true)
	refused(t, b[:len(b)-1])
	refused(t, append(b, 0))
	refused(t, []byte{0x10, 1, 0})
	next(t, key(3, 4), key(3, 5), true)
	next(t, key(3, top), api.Key{}, false)
	next(t, key(0, 1), api.Key{}, false)
	sorts(t, []api.Key{key(1, 9), key(2, 1)}, key(2, 1), key(1, 9), key(2, 1))
}

// P11.1: an entry may be just if each of its parts may.
func TestMay(t *testing.T) {
	if api.MaxCount != top || api.MaxNodes != 15 || api.MaxBody != 64 {
		t.Errorf("limits: %d, %d, %d", uint64(api.MaxCount), api.MaxNodes, api.MaxBody)
	}
	grid(func(e api.Entry, may bool) {
		if entry.May(e) != may {
			t.Errorf("May(%s): %v", tell(e), !may)
		}
	})
	for producer := -300; producer <= 300; producer++ {
		if want := producer >= 1 && producer <= 15; entry.May(made(producer, 1, "a")) != want {
			t.Errorf("May of the producer %d: %v", producer, !want)
		}
	}
	for size := range 300 {
		if want := size <= 64; entry.May(made(1, 1, text(size, 1))) != want {
			t.Errorf("May of %d bytes: %v", size, !want)
		}
	}
}

// P11.1: an entry without bytes may be, whether there is a list or not; room behind the bytes plays no part.
func TestMayOfNone(t *testing.T) {
	for _, body := range [][]byte{nil, {}, make([]byte, 0, 100), make([]byte, 64, 1000)} {
		e := api.Entry{Producer: 1, Seq: 1, Body: body}
		b, code := entry.Encode(e)
		if !entry.May(e) || code != api.OK || !bytes.Equal(b, written(e)) {
			t.Errorf("%d bytes with room for %d: %x, %d", len(body), cap(body), b, code)
		}
	}
	if entry.May(api.Entry{}) {
		t.Error("the zero one may be")
	}
}

// P11.1: two entries are the same just if all their parts are; nil and none are one; also of such as may not be.
func TestSame(t *testing.T) {
	l := []api.Entry{{}, {Body: []byte{}}, {Producer: 1, Seq: 1}, {Producer: 1, Seq: 1, Body: make([]byte, 0, 9)}}
	for _, producer := range []int{math.MinInt, -1, 0, 1, 2, 16, 1<<32 + 1, math.MaxInt} {
		for _, seq := range []uint64{0, 1, 2, 1<<32 + 1, top, top + 1, 1 << 63, math.MaxUint64} {
			for _, body := range []string{"", "\x00", "a", "b", "ab", "ac", "bb", text(64, 1), text(64, 2), text(65, 1), text(300, 1)} {
				l = append(l, made(producer, seq, body))
			}
		}
	}
	for _, a := range l {
		for _, b := range l {
			if got, want := entry.Same(a, b), alike(a, b); got != want {
				t.Fatalf("Same(%s, %s): %v", tell(a), tell(b), got)
			}
		}
	}
}

// P11.1: of bytes of one length each bit tells.
func TestSameOfEachBit(t *testing.T) {
	for _, body := range []string{text(64, 1), "messages"} {
		for i := range 8 * len(body) {
			a, b := made(1, 1, body), made(1, 1, body)
			if !entry.Same(a, b) {
				t.Error("the same one is not")
			}
			b.Body[i/8] ^= 1 << (i % 8)
			if entry.Same(a, b) || entry.Same(b, a) {
				t.Errorf("bit %d of %q does not tell", i, body)
			}
		}
	}
}

// P11.1: an entry that may be has the bytes that the chapter's words say; ErrArg, and nothing, of one that may not be.
func TestEncode(t *testing.T) {
	grid(func(e api.Entry, may bool) {
		var want []byte
		code := api.ErrArg
		if may {
			want, code = written(e), api.OK
		}
		if b, got := entry.Encode(e); got != code || !bytes.Equal(b, want) {
			t.Errorf("Encode(%s): %x, %d", tell(e), b[:min(len(b), 80)], got)
		}
	})
}

// P11.1: some bytes, written out.
func TestEncodeBytes(t *testing.T) {
	long := text(64, 4)
	for _, c := range []struct {
		e    api.Entry
		want string
	}{
		{made(1, 1, ""), "\x01\x01\x00"},
		{made(15, 127, "\x00"), "\x0f\x7f\x01\x00"},
		{made(15, 128, "xyz"), "\x0f\x80\x01\x03xyz"},
		{made(7, top, "é"), "\x07\xff\xff\xff\xff\xff\xff\xff\xff\x3f\x02\xc3\xa9"},
		{made(3, 16384, long), "\x03\x80\x80\x01\x40" + long},
	} {
		if b, e := entry.Encode(c.e); e != api.OK || string(b) != c.want {
			t.Errorf("Encode(%s): %x, %d", tell(c.e), b, e)
		}
		decodes(t, []byte(c.want), c.e, true)
	}
}

// P11.1: bytes of which one part, or all, may not be are refused, however great their numbers are.
func TestDecodeOfParts(t *testing.T) {
	var l []uint64
	for n := range counts {
		l = append(l, n)
	}
	for p := range producers {
		l = append(l, uint64(p))
	}
	there := 0
	for _, producer := range l {
		for _, seq := range l {
			for _, size := range []int{0, 1, 63, 64, 65, 127, 128, 300} {
				if looked(t, parts(producer, seq, text(size, 5))) {
					there++
				}
			}
		}
	}
	if there == 0 {
		t.Error("none was an entry")
	}
}

// P11.1: bytes that end too soon, or go on, are refused.
func TestDecodeOfCut(t *testing.T) {
	for _, e := range few() {
		b := written(e)
		decodes(t, b, e, true)
		for i := range b {
			refused(t, b[:i])
		}
		for _, more := range []string{"\x00", "\x01", "a", "\xff", string(b)} {
			refused(t, append(slices.Clone(b), more...))
		}
	}
	refused(t, nil)
	refused(t, []byte{})
	refused(t, make([]byte, 100000))
}

// P11.1: numbers with more digits than they have, with a digit too great, or without an end are refused.
func TestDecodeOfStrangeNumbers(t *testing.T) {
	for _, s := range []string{
		"\x81\x00\x01\x00", "\x01\x81\x00\x00", "\x01\x01\x80\x00", "\x01\x01\x81\x00a",
		"\x80\x01\x00", "\x80\x00\x01\x00", "\x01\x80\x00\x00",
		"\x01\xff\xff\xff\xff\xff\xff\xff\xff\xff\x01\x00", "\x01\xff\xff\xff\xff\xff\xff\xff\xff\xff\x02\x00",
		"\x01\x81\x80\x80\x80\x80\x80\x80\x80\x80\x02\x00", "\x01\x81\x80\x80\x80\x80\x80\x80\x80\x80\x00\x00",
		"\x01\x81\x80\x80\x80\x80\x80\x80\x80\x80\x80\x00\x00", "\x01\x81\x80\x80\x80\x80\x80\x80\x80\x80\x80\x80\x01\x00",
		"\x01\x80\x80\x80\x80\x80\x80\x80\x80\x40\x00", "\x01\xff\xff\xff\xff\xff\xff\xff\xff\x7f\x00",
		"\x81\x80\x80\x80\x10\x01\x00", "\x81\x80\x80\x80\x80\x80\x80\x80\x80\x01\x01\x00", "\x81\x02\x01\x00",
		"\x01\x01\xff\xff\xff\xff\xff\xff\xff\xff\xff\x01", "\x01\x01\x80\x80\x80\x80\x80\x80\x80\x80\x80\x01",
		"\x01\x01\xff\xff\xff\xff\x07", "\x01\x01\x81\x80\x80\x80\x80\x80\x80\x80\x80\x01a",
	} {
		refused(t, []byte(s))
		if _, ok := told([]byte(s)); ok {
			t.Errorf("%x is an entry by the chapter's words", s)
		}
	}
}

// P11.1: all rows of up to two bytes, of up to five of a few unlike ones, and of two behind a beginning, are what the chapter's words make of them.
func TestDecodeOfAll(t *testing.T) {
	some := []byte{0, 1, 2, 3, 15, 16, 64, 127, 128, 129, 255}
	there := 0
	var rows func(b []byte, most int, of []byte)
	rows = func(b []byte, most int, of []byte) {
		if looked(t, b) {
			there++
		}
		if len(b) == most {
			return
		}
		for _, x := range of {
			rows(append(slices.Clone(b), x), most, of)
		}
	}
	var all []byte
	for x := range 256 {
		all = append(all, byte(x))
	}
	rows(nil, 2, all)
	rows(nil, 5, some)
	rows([]byte{1, 1}, 4, all)
	if there == 0 {
		t.Error("none was an entry")
	}
}

// P11.1: an entry's bytes with some of them changed, left out, or put in are what the chapter's words make of them.
func TestDecodeOfSpoilt(t *testing.T) {
	d := rand.New(rand.NewPCG(11, 1))
	l := few()
	there := 0
	for range 60000 {
		b := written(l[d.IntN(len(l))])
		for range 1 + d.IntN(3) {
			at := d.IntN(len(b))
			if d.IntN(2) == 0 {
				at = d.IntN(min(4, len(b)))
			}
			switch d.IntN(4) {
			case 0:
				b[at] ^= 1 << d.IntN(8)
			case 1:
				b[at] = byte(d.Uint32())
			case 2:
				b = slices.Insert(b, at, byte(d.Uint32()))
			case 3:
				b = slices.Delete(b, at, at+1)
			}
			if len(b) == 0 {
				b = []byte{1}
			}
		}
		if looked(t, b) {
			there++
		}
	}
	if there == 0 {
		t.Error("none was an entry")
	}
}

// P11.2: a key may be just if both its numbers may.
func TestMayKey(t *testing.T) {
	for k, want := range keys() {
		if entry.MayKey(k) != want {
			t.Errorf("MayKey(%v): %v", k, !want)
		}
	}
}

// P11.2: keys stand by their ledgers, and in one by their numbers; any keys do.
func TestCmp(t *testing.T) {
	for a := range keys() {
		for b := range keys() {
			if got, want := entry.Cmp(a, b), order(a, b); got != want {
				t.Fatalf("Cmp(%v, %v): %d, not %d", a, b, got, want)
			}
		}
	}
}

// next looks whether Next answers that, and none beside false.
func next(t *testing.T, k, want api.Key, ok bool) {
	t.Helper()
	if got, is := entry.Next(k); got != want || is != ok {
		t.Errorf("Next(%v): %v, %v, not %v, %v", k, got, is, want, ok)
	}
}

// P11.2: the next number's key, in the same ledger; none, if the key may not be, or that one may not.
func TestNext(t *testing.T) {
	for k, may := range keys() {
		if may && k.N != top {
			next(t, k, key(k.Ledger, k.N+1), true)
		} else {
			next(t, k, api.Key{}, false)
		}
	}
	k := key(top, top-3)
	for n := uint64(top - 2); n <= top; n++ {
		next(t, k, key(top, n), true)
		k.N = n
	}
	next(t, k, api.Key{}, false)
}

// sorts looks whether Sort answers those keys.
func sorts(t *testing.T, want []api.Key, l ...api.Key) {
	t.Helper()
	if got := entry.Sort(l...); !slices.Equal(got, want) {
		t.Errorf("Sort(%v): %v, not %v", l[:min(len(l), 20)], got[:min(len(got), 20)], want[:min(len(want), 20)])
	}
}

// P11.3: all rows of up to five keys of few.
func TestSortOfFew(t *testing.T) {
	few := []api.Key{key(1, 1), key(1, 2), key(2, 1), key(2, 2), key(0, 3), key(3, 0)}
	var row func(l []api.Key)
	row = func(l []api.Key) {
		sorts(t, inOrder(l), l...)
		if len(l) == 5 {
			return
		}
		for _, k := range few {
			row(append(slices.Clone(l), k))
		}
	}
	row(nil)
	sorts(t, nil, []api.Key{}...)
}

// P11.3: rows of any keys, those that may not be among them.
func TestSortOfAny(t *testing.T) {
	var all []api.Key
	for k := range keys() {
		all = append(all, k)
	}
	slices.SortFunc(all, order)
	sorts(t, all, all...)
	d := rand.New(rand.NewPCG(11, 3))
	for range 3000 {
		var l []api.Key
		for range d.IntN(40) {
			k := all[d.IntN(len(all))]
			if d.IntN(2) == 0 {
				k = key(d.Uint64N(4), d.Uint64N(4))
			}
			l = append(l, k)
		}
		sorts(t, inOrder(l), l...)
	}
}

// P11.3: many keys: rising, falling, turned round, one alone, many times the same ones.
func TestSortOfMany(t *testing.T) {
	d := rand.New(rand.NewPCG(11, 4))
	var rise []api.Key
	for ledger := range uint64(300) {
		for n := range uint64(300) {
			rise = append(rise, key(ledger, n))
		}
	}
	fall := slices.Clone(rise)
	slices.Reverse(fall)
	mixed := slices.Concat(rise, fall[:5000], rise[10000:30000])
	d.Shuffle(len(mixed), func(i, j int) { mixed[i], mixed[j] = mixed[j], mixed[i] })
	for _, l := range [][]api.Key{rise, fall, mixed, slices.Concat(rise, rise), slices.Concat(fall, rise)} {
		sorts(t, rise, l...)
	}
	sorts(t, rise[7:8], slices.Repeat(rise[7:8], 100000)...)
	sorts(t, rise[7:9], slices.Repeat(rise[7:9], 50000)...)
}
