package frame_test

import (
	"bytes"
	"encoding/binary"
	"hash/crc32"
	"math"
	"slices"
	"testing"

	"scrivener/api"
	"scrivener/frame"
)

// some tells n bytes, unlike for unlike seeds, the same ones at each run.
func some(n int, seed uint32) []byte {
	b := make([]byte, n)
	for i := range b {
		seed = seed*1664525 + 1013904223
		b[i] = byte(seed >> 24)
	}
	return b
}

// check reckons the sum of bytes by the library, not by way of the program.
func check(b []byte) uint32 {
	return crc32.Checksum(b, crc32.MakeTable(crc32.Castagnoli))
}

// claims tells what would be the record of a payload if it had n bytes, with a sum that fits.
func claims(n uint32, payload []byte) []byte {
	size := binary.LittleEndian.AppendUint32(nil, n)
	b := binary.LittleEndian.AppendUint32(slices.Clone(size), check(append(size, payload...)))
	return append(b, payload...)
}

// record tells a payload's record as the chapter's words say it.
func record(payload []byte) []byte { return claims(uint32(len(payload)), payload) }

// row tells records one behind the other.
func row(payloads ...[]byte) []byte {
	var b []byte
	for _, p := range payloads {
		b = append(b, record(p)...)
	}
	return b
}

// reckoned tells what bytes tell as the chapter's words say it.
func reckoned(b []byte) ([][]byte, int) {
	var l [][]byte
	at := 0
	for len(b)-at >= 8 {
		n := uint64(binary.LittleEndian.Uint32(b[at:]))
		if n > 16384 || n > uint64(len(b)-at-8) {
			break
		}
		p := b[at+8 : at+8+int(n)]
		if !bytes.Equal(record(p), b[at:at+8+int(n)]) {
			break
		}
		l = append(l, p)
		at += 8 + int(n)
	}
	return l, at
}

// same tells whether two lists have the same bytes.
func same(a, b [][]byte) bool { return slices.EqualFunc(a, b, bytes.Equal) }

// tells looks whether All answers those payloads, and that many bytes.
func tells(t *testing.T, name string, b []byte, want [][]byte, size int) {
	t.Helper()
	if l, n := frame.All(b); !same(l, want) || n != size {
		t.Errorf("%s: %d payloads, and %d bytes, not %d, and %d", name, len(l), n, len(want), size)
	}
}

// joined tells payloads' records by Join, which should not refuse them.
func joined(t *testing.T, payloads ...[]byte) []byte {
	t.Helper()
	b, e := frame.Join(payloads...)
	if e != api.OK {
		t.Fatalf("%d payloads: %d", len(payloads), e)
	}
	return b
}

// turned tells a copy of b whose bits at those places are turned, of each byte the lowest one first.
func turned(b []byte, at ...int) []byte {
	x := slices.Clone(b)
	for _, i := range at {
		x[i/8] ^= 1 << (i % 8)
	}
	return x
}

// rows are lists of payloads: none, single ones, alike ones, the longest ones, many.
func rows() [][][]byte {
	l := [][][]byte{
		nil,
		{nil},
		{{}, nil},
		{[]byte("a"), []byte(""), []byte("bc")},
		{[]byte("x"), []byte("x"), []byte("x")},
		{make([]byte, 8), make([]byte, 8)},
		{record([]byte("in")), row([]byte("a"), nil)},
		{some(api.MaxRecord, 1)},
		{make([]byte, api.MaxRecord), nil, some(api.MaxRecord-1, 2), []byte("z")},
	}
	for i := range 40 {
		var m [][]byte
		for k, x := range some(i, uint32(i)) {
			m = append(m, some(int(x)%50, uint32(100*i+k)))
		}
		l = append(l, m)
	}
	return append(l, make([][]byte, 1000))
}

// P3.1: records byte by byte.
func TestPutBytes(t *testing.T) {
	for _, c := range []struct{ payload, want string }{
		{"", "\x00\x00\x00\x00\xC7\x4B\x67\x48"},
		{"ab", "\x02\x00\x00\x00\xAD\x82\x65\x9Fab"},
	} {
		b, e := frame.Put([]byte(c.payload))
		if e != api.OK || string(b) != c.want {
			t.Errorf("%q: %X, %d", c.payload, b, e)
		}
	}
	if b, e := frame.Put(nil); e != api.OK || string(b) != "\x00\x00\x00\x00\xC7\x4B\x67\x48" {
		t.Errorf("nil: %X, %d", b, e)
	}
}

// P3.1: a payload of each length that may be has its record, and as many bytes as Size tells; a longer one has none.
func TestPutLengths(t *testing.T) {
	lengths := []int{0, 1, 2, 3, 4, 5, 7, 8, 127, 128, 200, 255, 256, 257, 4096, 16128, 16383, 16384}
	for n := range 70 {
		lengths = append(lengths, n)
	}
	for _, n := range lengths {
		p := some(n, uint32(n))
		b, e := frame.Put(p)
		if e != api.OK || !bytes.Equal(b, record(p)) {
			t.Errorf("%d bytes: %d bytes of a record, %d", n, len(b), e)
		}
		if frame.Size(p) != len(b) || len(b) != n+8 {
			t.Errorf("%d bytes: %d, and %d", n, frame.Size(p), len(b))
		}
	}
	for _, n := range []int{16385, 16386, 16392, 32768, 65536, 1 << 20} {
		if b, e := frame.Put(make([]byte, n)); e != api.ErrLong || len(b) != 0 {
			t.Errorf("%d bytes: %d bytes of a record, %d", n, len(b), e)
		}
	}
}

// P3.1: how many bytes a record has, also of payloads that are too long.
func TestSize(t *testing.T) {
	if n := frame.Size(nil); n != 8 {
		t.Errorf("nil: %d", n)
	}
	if n := frame.Size([]byte("ab")); n != 10 {
		t.Errorf("ab: %d", n)
	}
	room := make([]byte, 1<<20)
	for _, n := range []int{0, 1, 16383, 16384, 16385, 16386, 65535, 65536, 65537, 1 << 20} {
		if x := frame.Size(room[:n]); x != n+8 {
			t.Errorf("%d bytes: %d", n, x)
		}
	}
}

// P3.1: records stand one behind the other, in the order of the payloads.
func TestJoin(t *testing.T) {
	for i, l := range rows() {
		b, e := frame.Join(l...)
		if e != api.OK || !bytes.Equal(b, row(l...)) {
			t.Errorf("row %d: %d bytes, %d", i, len(b), e)
		}
	}
	if b, e := frame.Join(); e != api.OK || len(b) != 0 {
		t.Errorf("no payloads: %X, %d", b, e)
	}
	if b, e := frame.Join([]byte("a"), []byte("b")); e != api.OK || bytes.Equal(b, row([]byte("b"), []byte("a"))) {
		t.Errorf("the order is not seen: %X, %d", b, e)
	}
}

// P3.1: each payload alone may be too long, wherever it stands; how long all are together plays no part.
func TestJoinLong(t *testing.T) {
	for n := range 4 {
		for at := range n + 1 {
			l := make([][]byte, n)
			for i := range l {
				l[i] = some(i, 3)
			}
			l = slices.Insert(l, at, make([]byte, 16385))
			if b, e := frame.Join(l...); e != api.ErrLong || len(b) != 0 {
				t.Errorf("the one at %d of %d: %d bytes, %d", at, n, len(b), e)
			}
			l[at] = l[at][:16384]
			if b, e := frame.Join(l...); e != api.OK || !bytes.Equal(b, row(l...)) {
				t.Errorf("no one of %d: %d bytes, %d", n, len(b), e)
			}
		}
	}
	var l [][]byte
	for i := range 30 {
		l = append(l, some(16384, uint32(i)))
	}
	if b, e := frame.Join(l...); e != api.OK || len(b) != 30*16392 {
		t.Errorf("thirty of the longest: %d bytes, %d", len(b), e)
	}
}

// P3.2: the chapter's examples.
func TestAllExamples(t *testing.T) {
	b := joined(t, []byte("a"), nil, []byte("bc"))
	tells(t, "all", b, [][]byte{[]byte("a"), nil, []byte("bc")}, 27)
	tells(t, "without the last byte", b[:len(b)-1], [][]byte{[]byte("a"), nil}, 17)
	tells(t, "eight noughts", make([]byte, 8), nil, 0)
	tells(t, "nothing", nil, nil, 0)
	tells(t, "an empty list", []byte{}, nil, 0)
}

// spoilt are bytes at whose front no record stands.
func spoilt() map[string][]byte {
	p := []byte("some text")
	good := record(p)
	size, sum := good[:4], good[4:8]
	around := func(b []byte) []byte {
		x := slices.Clone(b)
		slices.Reverse(x)
		return x
	}
	long := some(api.MaxRecord+1, 1)
	return map[string][]byte{
		"one byte":                  {0},
		"the size alone":            size,
		"seven bytes of none":       record(nil)[:7],
		"the head alone":            good[:8],
		"the last byte missing":     good[:len(good)-1],
		"noughts":                   make([]byte, 100),
		"ones":                      bytes.Repeat([]byte{255}, 100),
		"sum of the payload alone":  slices.Concat(size, binary.LittleEndian.AppendUint32(nil, check(p)), p),
		"sum of payload, then size": slices.Concat(size, binary.LittleEndian.AppendUint32(nil, check(slices.Concat(p, size))), p),
		"sum, highest byte first":   slices.Concat(size, around(sum), p),
		"size, highest byte first":  slices.Concat(around(size), binary.LittleEndian.AppendUint32(nil, check(slices.Concat(around(size), p))), p),
		"sum ahead of the size":     slices.Concat(sum, size, p),
		"sum behind the payload":    slices.Concat(size, p, sum),
		"sum of nought":             slices.Concat(size, make([]byte, 4), p),
		"a byte ahead":              append([]byte{0}, good...),
		"the first byte missing":    good[1:],
		"one less than said":        claims(10, p),
		"one more than said":        claims(8, p),
		"none said":                 claims(0, p),
		"one too long":              record(long),
		"one too long, more behind": append(record(long), row(p, p)...),
		"65,536 bytes":              record(some(65536, 2)),
		"more than there are":       claims(16384, p),
		"more than may be":          claims(16385, p),
		"2^31 - 1 bytes":            claims(math.MaxInt32, p),
		"2^31 bytes":                claims(1<<31, p),
		"2^32 - 1 bytes":            claims(math.MaxUint32, p),
		"2^32 - 8 bytes":            claims(math.MaxUint32-7, p),
		"2^32 - 4 bytes":            claims(math.MaxUint32-3, p),
		"65,545 bytes":              claims(1<<16+9, p),
		"2^24 + 9 bytes":            claims(1<<24+9, p),
		"another payload":           slices.Concat(good[:8], []byte("some next")),
	}
}

// P3.2: bytes that are no record tell nothing, and end what is told; what is behind them is not looked for.
func TestAllSpoilt(t *testing.T) {
	for name, b := range spoilt() {
		tells(t, name, b, nil, 0)
		tells(t, name+", a record behind", slices.Concat(b, row([]byte("b"))), nil, 0)
		ahead := [][]byte{[]byte("a"), nil, some(300, 3)}
		tells(t, name+", records ahead", append(row(ahead...), b...), ahead, 9+8+308)
		tells(t, name+", records around", slices.Concat(row(ahead...), b, row([]byte("b"))), ahead, 9+8+308)
	}
}

// P3.2: of any bytes what the chapter's words say, whichever of them are others than they were.
func TestAllByItsWords(t *testing.T) {
	b := row([]byte("abc"), nil, []byte{1, 2, 3, 4, 5, 6, 7, 8, 9}, []byte("z"))
	for at := range b {
		for x := range 256 {
			c := slices.Clone(b)
			c[at] = byte(x)
			want, size := reckoned(c)
			if l, n := frame.All(c); !same(l, want) || n != size {
				t.Fatalf("byte %d is %d: %d payloads, and %d bytes, not %d, and %d", at, x, len(l), n, len(want), size)
			}
		}
	}
	for i := range 5000 {
		c := some(i%60, uint32(i))
		for k := range min(i%9, len(c)) {
			c[k] = 0
		}
		want, size := reckoned(c)
		tells(t, "bytes by chance", c, want, size)
	}
}

// P3.2: the longest payload there may be is told, and is still told where more stands behind it.
func TestAllLongest(t *testing.T) {
	p := some(16384, 4)
	tells(t, "the longest", record(p), [][]byte{p}, 16392)
	tells(t, "the longest, and one", row(p, []byte("a")), [][]byte{p, []byte("a")}, 16401)
	tells(t, "two of the longest", row(p, p), [][]byte{p, p}, 2*16392)
}

// P3.3: neither what is handed in nor the room behind it is changed.
func TestHandedInStays(t *testing.T) {
	room := some(200, 5)
	copy(room, row([]byte("a"), []byte("bcd")))
	was := slices.Clone(room)
	frame.Put(room[:9])
	frame.Put(room[:0])
	frame.Join(room[:9], room[9:20], room[:0], room[20:30])
	frame.All(room[:20])
	frame.All(room[:19])
	frame.All(room[:0])
	frame.Size(room[:9])
	if !bytes.Equal(room, was) {
		t.Errorf("%X, not %X", room, was)
	}
	list := [][]byte{room[:4], nil, room[4:9], room[30:40]}
	frame.Join(list[:3]...)
	frame.Put(list[0])
	if !same(list, [][]byte{was[:4], nil, was[4:9], was[30:40]}) || !bytes.Equal(room, was) {
		t.Errorf("the list: %X", list)
	}
}

// P3.3: records share nothing with their payloads, nor with one another.
func TestRecordsApart(t *testing.T) {
	room := some(100, 6)
	was := slices.Clone(room)
	a, _ := frame.Put(room[:10])
	b, _ := frame.Put(room[:10])
	c, _ := frame.Join(room[:10], room[10:30])
	clear(room)
	if !bytes.Equal(a, record(was[:10])) || !bytes.Equal(b, record(was[:10])) || !bytes.Equal(c, row(was[:10], was[10:30])) {
		t.Errorf("changed with the payloads: %X, %X, %X", a, b, c)
	}
	clear(a[:cap(a)])
	clear(c[:cap(c)])
	if !bytes.Equal(b, record(was[:10])) || !bytes.Equal(room, make([]byte, 100)) {
		t.Errorf("changed with other records: %X, %X", b, room)
	}
}

// P3.3: payloads that are told share nothing with the bytes that tell them, nor with one another.
func TestToldApart(t *testing.T) {
	want := [][]byte{[]byte("abc"), some(40, 7), []byte("d"), nil, []byte("ef")}
	b := row(want...)
	was := slices.Clone(b)
	l, _ := frame.All(b)
	again, _ := frame.All(b)
	clear(b)
	if !same(l, want) || !same(again, want) {
		t.Errorf("changed with the bytes: %X", l)
	}
	copy(b, was)
	for i := range l {
		clear(l[i][:cap(l[i])])
		l[i] = append(l[i], 1, 1, 1, 1, 1, 1, 1, 1, 1, 1)
		if i+1 < len(l) && !same(l[i+1:], want[i+1:]) {
			t.Errorf("changed with payload %d: %X", i, l[i+1:])
		}
	}
	if !same(again, want) || !bytes.Equal(b, was) {
		t.Errorf("changed with what was told: %X, %X", again, b)
	}
	again = append(again, nil)
	if l, _ := frame.All(b); !same(l, want) {
		t.Errorf("changed with a list: %X", l)
	}
}

// P3.4: payloads come back from their records, all of them, and all bytes are told.
func TestThereAndBack(t *testing.T) {
	for i, l := range rows() {
		b := joined(t, l...)
		told, n := frame.All(b)
		if !same(told, l) || n != len(b) {
			t.Errorf("row %d: %d payloads of %d, %d bytes of %d", i, len(told), len(l), n, len(b))
		}
		sizes := 0
		for _, p := range l {
			sizes += frame.Size(p)
		}
		if n != sizes {
			t.Errorf("row %d: %d bytes, by Size %d", i, n, sizes)
		}
	}
	for n := range 300 {
		p := some(n, uint32(n)+9)
		b, _ := frame.Put(p)
		tells(t, "one", b, [][]byte{p}, n+8)
	}
}

// P3.5: of a beginning of records those are told that stand there whole, wherever it is cut off.
func TestCutOff(t *testing.T) {
	for i, l := range rows() {
		b := joined(t, l...)
		step := 1 + len(b)/500
		whole, end := 0, 0
		for n := 0; n <= len(b); n += step {
			for whole < len(l) && end+len(l[whole])+8 <= n {
				end += len(l[whole]) + 8
				whole++
			}
			if told, size := frame.All(b[:n]); !same(told, l[:whole]) || size != end {
				t.Fatalf("row %d, %d bytes of %d: %d payloads, and %d bytes, not %d, and %d", i, n, len(b), len(told), size, whole, end)
			}
		}
	}
	p := some(16384, 8)
	b := joined(t, []byte("a"), p)
	for n := len(b) - 20; n < len(b); n++ {
		tells(t, "the longest, cut off", b[:n], [][]byte{[]byte("a")}, 9)
	}
}

// P3.6: all ones, twos and threes of bits that are turned in a record, none of them of its first four bytes, are noticed; records ahead are told.
func TestSpoilt(t *testing.T) {
	ahead := [][]byte{[]byte("a"), nil}
	front := joined(t, ahead...)
	for _, p := range [][]byte{nil, {0}, []byte("abcde")} {
		b := joined(t, append(slices.Clone(ahead), p, []byte("behind"))...)
		from, to := 8*(len(front)+4), 8*(len(front)+8+len(p))
		for i := from; i < to; i++ {
			for k := i; k < to; k++ {
				for m := k; m < to; m++ {
					// Two like places undo each other: i, i, m is m alone.
					at := []int{i, k, m}
					if i == k {
						at = at[2:]
					} else if k == m {
						at = at[:2]
					}
					if l, n := frame.All(turned(b, at...)); !same(l, ahead) || n != len(front) {
						t.Fatalf("%d bytes, turned at %v: %d payloads, and %d bytes", len(p), at, len(l), n)
					}
				}
			}
		}
	}
}

// P3.6: in the longest record too, and whichever of several is the spoilt one.
func TestSpoiltElsewhere(t *testing.T) {
	p := some(16384, 9)
	b := joined(t, []byte("a"), p, []byte("behind"))
	bits := 8 * (4 + len(p))
	for i := range 600 {
		x := some(12, uint32(i))
		var at []int
		for k := range 1 + i%3 {
			place := 8*(9+4) + int(binary.LittleEndian.Uint32(x[4*k:])>>8)%bits
			if !slices.Contains(at, place) {
				at = append(at, place)
			}
		}
		tells(t, "the longest, spoilt", turned(b, at...), [][]byte{[]byte("a")}, 9)
	}
	for _, place := range []int{8 * (9 + 4), 8*(9+8) - 1, 8 * (9 + 8), 8*(9+8+16384) - 1} {
		tells(t, "the longest, spoilt at an edge", turned(b, place), [][]byte{[]byte("a")}, 9)
	}
	l := [][]byte{[]byte("one"), nil, some(100, 1), []byte("four"), nil}
	b = joined(t, l...)
	from := 0
	for i, p := range l {
		for place := 8 * (from + 4); place < 8*(from+8+len(p)); place++ {
			tells(t, "one of several, spoilt", turned(b, place), l[:i], from)
		}
		from += 8 + len(p)
	}
}

// P3.7: what stands behind records changes none of those that are told of them; it is told as if it stood alone.
func TestBehind(t *testing.T) {
	behind := [][]byte{nil, {0}, {255}, make([]byte, 3), make([]byte, 7), make([]byte, 8), make([]byte, 9), make([]byte, 100), some(50, 1), some(20000, 2), row([]byte("b")), row(nil, []byte("c"))}
	for _, b := range spoilt() {
		behind = append(behind, b)
	}
	for i, l := range rows() {
		b := joined(t, l...)
		for k, tail := range behind {
			all := slices.Concat(b, tail)
			more, size := frame.All(tail)
			told, n := frame.All(all)
			if len(told) < len(l) || !same(told[:len(l)], l) || n < len(b) {
				t.Fatalf("row %d, tail %d: %d payloads of %d, %d bytes of %d", i, k, len(told), len(l), n, len(b))
			}
			if !same(told[len(l):], more) || n != len(b)+size {
				t.Fatalf("row %d, tail %d: %d payloads, and %d bytes behind", i, k, len(told)-len(l), n-len(b))
			}
		}
	}
}

// P3.7: the same where the last record that the bytes tell is followed by a torn one.
func TestBehindTorn(t *testing.T) {
	whole := [][]byte{[]byte("a"), []byte("bc")}
	b := joined(t, whole...)
	next := joined(t, []byte("next"))
	for n := range len(next) {
		for _, tail := range [][]byte{nil, {0}, make([]byte, 2), bytes.Repeat([]byte{'x'}, 40)} {
			tells(t, "a torn one behind", slices.Concat(b, next[:n], tail), whole, len(b))
		}
	}
}
