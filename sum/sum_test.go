package sum_test

import (
	"bytes"
	"encoding/binary"
	"hash/crc32"
	"math/bits"
	"slices"
	"testing"

	"scrivener/sum"
)

// longest is up to how many bytes P1.6 speaks of.
const longest = 65536

// some tells n bytes, unlike for unlike seeds, the same ones at each run.
func some(n int, seed uint32) []byte {
	b := make([]byte, n)
	for i := range b {
		seed = seed*1664525 + 1013904223
		b[i] = byte(seed >> 24)
	}
	return b
}

// divided reckons a sum as the chapter's words say it, a bit after the other.
func divided(b []byte) uint32 {
	var row []byte
	for _, x := range b {
		for i := range 8 {
			row = append(row, x>>i&1)
		}
	}
	row = append(row, make([]byte, 32)...)
	for i := range 32 {
		row[i] ^= 1
	}
	for i := range len(row) - 32 {
		if row[i] == 0 {
			continue
		}
		row[i] = 0
		for k := range 32 {
			row[i+1+k] ^= byte(uint32(0x1EDC6F41) >> (31 - k) & 1)
		}
	}
	var s uint32
	for i, x := range row[len(row)-32:] {
		s |= uint32(x^1) << i
	}
	return s
}

// fourOf tells the text of four bytes whose sum is s: the register is turned back to what it begins with.
func fourOf(s uint32) []byte {
	register := ^s
	for range 32 {
		low := register >> 31
		if low == 1 {
			register ^= 0x82F63B78
		}
		register = register<<1 | low
	}
	return binary.LittleEndian.AppendUint32(nil, ^register)
}

// turned tells a copy of b whose bits at those places are turned, of each byte the lowest one first.
func turned(b []byte, at ...int) []byte {
	x := slices.Clone(b)
	for _, i := range at {
		x[i/8] ^= 1 << (i % 8)
	}
	return x
}

// refused tells whether b is not opened, and nothing is answered beside that.
func refused(b []byte) bool {
	x, ok := sum.Open(b)
	return !ok && len(x) == 0
}

// P1.1: the chapter's examples.
func TestOfExamples(t *testing.T) {
	for _, c := range []struct {
		name  string
		parts [][]byte
		want  uint32
	}{
		{"no parts", nil, 0},
		{"empty parts", [][]byte{nil, {}, nil}, 0},
		{"digits", [][]byte{[]byte("123456789")}, 0xE3069283},
		{"digits in parts", [][]byte{[]byte("1234"), {}, []byte("56789")}, 0xE3069283},
		{"noughts", [][]byte{make([]byte, 32)}, 0x8A9136AA},
	} {
		if x := sum.Of(c.parts...); x != c.want {
			t.Errorf("%s: %08X, not %08X", c.name, x, c.want)
		}
	}
}

// P1.1: what the words say, for each byte and for all short lengths; for long ones what the library has.
func TestOfByItsWords(t *testing.T) {
	for x := range 256 {
		if b := []byte{byte(x)}; sum.Of(b) != divided(b) {
			t.Errorf("byte %d: %08X, not %08X", x, sum.Of(b), divided(b))
		}
	}
	for n := range 100 {
		if b := some(n, uint32(n)); sum.Of(b) != divided(b) {
			t.Errorf("%d bytes: %08X, not %08X", n, sum.Of(b), divided(b))
		}
	}
	table := crc32.MakeTable(crc32.Castagnoli)
	for _, n := range []int{1000, 16384, longest - 1, longest, longest + 1, 1 << 20} {
		if b := some(n, 7); sum.Of(b) != crc32.Checksum(b, table) {
			t.Errorf("%d bytes: %08X", n, sum.Of(b))
		}
	}
}

// P1.1: parts are one behind the other, wherever they are cut, in their order.
func TestOfParts(t *testing.T) {
	b := some(40, 3)
	want := sum.Of(b)
	for i := range len(b) + 1 {
		for k := i; k <= len(b); k++ {
			if sum.Of(b[:i], b[i:k], nil, b[k:]) != want {
				t.Fatalf("cut at %d and %d", i, k)
			}
		}
	}
	var single [][]byte
	for i := range b {
		single = append(single, b[i:i+1], nil)
	}
	if sum.Of(single...) != want {
		t.Errorf("byte for byte")
	}
	if sum.Of(b[20:], b[:20]) == want {
		t.Errorf("order of the parts is not seen")
	}
}

// P1.2: what is sealed is the text and its sum, the least byte first.
func TestSeal(t *testing.T) {
	if x := sum.Seal(nil); !bytes.Equal(x, []byte{0, 0, 0, 0}) {
		t.Errorf("of nil: %X", x)
	}
	if x := sum.Seal([]byte{}); !bytes.Equal(x, []byte{0, 0, 0, 0}) {
		t.Errorf("of nothing: %X", x)
	}
	if x := sum.Seal([]byte("123456789")); string(x) != "123456789\x83\x92\x06\xE3" {
		t.Errorf("of digits: %X", x)
	}
	for n := range 70 {
		b := some(n, uint32(n))
		if want := binary.LittleEndian.AppendUint32(slices.Clone(b), divided(b)); !bytes.Equal(sum.Seal(b), want) {
			t.Errorf("%d bytes: %X, not %X", n, sum.Seal(b), want)
		}
	}
}

// P1.2: what was sealed is opened, what was not is refused.
func TestOpen(t *testing.T) {
	for _, n := range []int{0, 1, 2, 3, 4, 5, 64, 200, longest} {
		b := some(n, uint32(n))
		x, ok := sum.Open(sum.Seal(b))
		if !ok || !bytes.Equal(x, b) {
			t.Errorf("%d bytes: %v", n, ok)
		}
		x, ok = sum.Open(sum.Seal(sum.Seal(b)))
		if !ok || !bytes.Equal(x, sum.Seal(b)) {
			t.Errorf("%d bytes, sealed twice: %v", n, ok)
		}
	}
	for n := range 4 {
		if !refused(make([]byte, n)) {
			t.Errorf("%d noughts opened", n)
		}
	}
	if !refused(nil) {
		t.Errorf("nil opened")
	}
	ab := sum.Seal([]byte("ab"))
	if !refused(turned(ab, 8*len(ab)-1)) {
		t.Errorf("last bit turned, and opened")
	}
}

// P1.2: of all tails that a text may have only its sum opens it.
func TestOpenWrong(t *testing.T) {
	b := some(9, 1)
	sealed := sum.Seal(b)
	var around []byte
	for i := range 4 {
		around = append(around, sealed[len(sealed)-1-i])
	}
	for name, x := range map[string][]byte{
		"no sum":             b,
		"noughts for a sum":  append(slices.Clone(b), 0, 0, 0, 0),
		"ones for a sum":     append(slices.Clone(b), 255, 255, 255, 255),
		"highest byte first": append(slices.Clone(b), around...),
		"sum ahead":          append(slices.Clone(sealed[9:]), b...),
		"one byte less":      sealed[:len(sealed)-1],
		"first byte less":    sealed[1:],
		"one byte more":      append(slices.Clone(sealed), 0),
		"a byte ahead":       append([]byte{0}, sealed...),
		"sum turned":         turned(sealed, 72, 77, 85, 99, 103),
	} {
		if !refused(x) {
			t.Errorf("%s: opened", name)
		}
	}
	for i := range 4 {
		for x := range 256 {
			y := slices.Clone(sealed)
			y[len(b)+i] = byte(x)
			if y[len(b)+i] != sealed[len(b)+i] && !refused(y) {
				t.Errorf("byte %d of the sum %d: opened", i, x)
			}
		}
	}
}

// P1.3: neither what is handed in nor the room behind it is changed.
func TestHandedInStays(t *testing.T) {
	room := some(64, 5)
	copy(room[20:], sum.Seal(room[:20]))
	was := slices.Clone(room)
	sum.Of(room[:10], room[10:20])
	sum.Seal(room[:20])
	sum.Seal(room[:0])
	sum.Open(room[:24])
	sum.Open(room[:23])
	if !bytes.Equal(room, was) {
		t.Errorf("%X, not %X", room, was)
	}
	parts := [][]byte{room[:4], nil, room[4:9]}
	sum.Of(parts...)
	if !bytes.Equal(parts[0], was[:4]) || parts[1] != nil || !bytes.Equal(parts[2], was[4:9]) {
		t.Errorf("parts: %X", parts)
	}
}

// P1.3: what is answered shares nothing with what was handed in, nor with another answer.
func TestAnsweredIsNew(t *testing.T) {
	b := make([]byte, 8, 64)
	sealed, again := sum.Seal(b), sum.Seal(b)
	opened, _ := sum.Open(sealed)
	other, _ := sum.Open(sealed)
	want := slices.Clone(sealed)
	clear(b[:cap(b)])
	for i := range b {
		b[i] = 1
		opened[i] = 2
	}
	if !bytes.Equal(sealed, want) || !bytes.Equal(again, want) || !bytes.Equal(other, want[:8]) {
		t.Errorf("changed with another one: %X, %X, %X", sealed, again, other)
	}
	for i := range sealed {
		sealed[i] = 3
	}
	if !bytes.Equal(again, want) || !bytes.Equal(b, bytes.Repeat([]byte{1}, 8)) || !bytes.Equal(opened, bytes.Repeat([]byte{2}, 8)) {
		t.Errorf("changed with what was sealed: %X, %X, %X", again, b, opened)
	}
	x := append(opened, 9, 9, 9, 9)
	if !bytes.Equal(sealed, bytes.Repeat([]byte{3}, 12)) || len(x) != 12 {
		t.Errorf("room behind an answer is shared: %X", sealed)
	}
}

// P1.4: behind two texts of one sum the sum goes on the same way.
func TestGoesOn(t *testing.T) {
	for n := range 60 {
		a := some(n, uint32(n))
		b := fourOf(sum.Of(a))
		if sum.Of(b) != sum.Of(a) {
			t.Fatalf("%d bytes: no text of four bytes with that sum: %X", n, b)
		}
		for k := range 30 {
			tail := some(k, uint32(100+k))
			if sum.Of(a, tail) != sum.Of(b, tail) {
				t.Errorf("%d bytes, and %d behind: %08X, %08X", n, k, sum.Of(a, tail), sum.Of(b, tail))
			}
		}
	}
}

// P1.4: unlike bytes behind two texts of one sum, at most four, make unlike sums.
func TestGoesApart(t *testing.T) {
	a := some(33, 2)
	b := fourOf(sum.Of(a))
	for n := 1; n <= 4; n++ {
		at := map[uint32]bool{}
		for x := range 256 {
			tail := make([]byte, n)
			tail[n-1] = byte(x)
			at[sum.Of(a, tail)] = true
		}
		if len(at) != 256 {
			t.Errorf("last of %d bytes: %d sums", n, len(at))
		}
		for k := range 20000 {
			x, y := some(n, uint32(k)), some(n, uint32(k)*77+3)
			if bytes.Equal(x, y) == (sum.Of(a, x) != sum.Of(b, y)) {
				t.Fatalf("%X, %X behind: %08X, %08X", x, y, sum.Of(a, x), sum.Of(b, y))
			}
		}
	}
}

// P1.4: all texts of two bytes, as many sums.
func TestAllOfTwoBytes(t *testing.T) {
	at := make(map[uint32]bool, 1<<16)
	for x := range 1 << 16 {
		at[sum.Of([]byte{byte(x), byte(x >> 8)})] = true
	}
	if len(at) != 1<<16 {
		t.Errorf("%d sums", len(at))
	}
}

// P1.5: the sum of all that was sealed is one number for all; for what was not sealed it is another one.
func TestOneForAll(t *testing.T) {
	const one = 0x48674BC7
	for _, n := range []int{0, 1, 2, 3, 4, 5, 31, 64, 1000, longest} {
		sealed := sum.Seal(some(n, uint32(n)))
		if x := sum.Of(sealed); x != one {
			t.Errorf("%d bytes: %08X", n, x)
		}
		if x := sum.Of(turned(sealed, 0)); x == one {
			t.Errorf("%d bytes, a bit turned: %08X", n, x)
		}
	}
}

// P1.6: all ones, twos and threes of turned bits in a short text are noticed.
func TestFewTurned(t *testing.T) {
	for _, n := range []int{0, 1, 2, 5} {
		sealed := sum.Seal(some(n, 11))
		all := 8 * len(sealed)
		for i := range all {
			for k := i; k < all; k++ {
				for m := k; m < all; m++ {
					// Two like places undo each other: i, i, m is m alone.
					at := []int{i, k, m}
					if i == k {
						at = at[2:]
					} else if k == m {
						at = at[:2]
					}
					if !refused(turned(sealed, at...)) {
						t.Fatalf("%d bytes, turned at %v: opened", n, at)
					}
				}
			}
		}
	}
}

// P1.6: what is turned within 32 bits side by side is noticed, wherever it stands.
func TestBursts(t *testing.T) {
	sealed := sum.Seal(some(10, 12))
	for from := range 8*len(sealed) - 31 {
		for k := range 500 {
			pattern := binary.LittleEndian.Uint32(some(4, uint32(500*from+k))) >> (k % 32)
			if k == 0 {
				pattern = 1<<32 - 1
			}
			var at []int
			for i := range 32 {
				if pattern>>i&1 == 1 {
					at = append(at, from+i)
				}
			}
			if len(at) > 0 && !refused(turned(sealed, at...)) {
				t.Fatalf("turned at %v: opened", at)
			}
		}
	}
}

// traces tells, from the last bit of the longest text that is sealed to its first one, what a bit that is turned there makes of the sum of all: a text of four bytes stands for all that is ahead of a byte (P1.4).
func traces() []uint32 {
	var all, step []uint32
	base := sum.Of([]byte{0})
	for i := range 8 {
		step = append(step, sum.Of([]byte{128 >> i})^base)
	}
	nought := []byte{0}
	none := fourOf(0)
	for range longest + 4 {
		all = append(all, step...)
		for i, x := range step {
			step[i] = sum.Of(fourOf(x), nought) ^ sum.Of(none, nought)
		}
	}
	return all
}

// P1.6: at the greatest length, too, no three turned bits are missed, and no burst of 32.
func TestFarFromOneAnother(t *testing.T) {
	all := traces()
	at := make(map[uint32]int, len(all))
	for i, x := range all {
		if k, ok := at[x]; ok || x == 0 {
			t.Fatalf("bit %d from the end does what bit %d does, or nothing: %08X", i, k, x)
		}
		at[x] = i
		// Of odd weights three never make nought.
		if bits.OnesCount32(x)%2 != 1 {
			t.Fatalf("bit %d from the end: %08X is of even weight", i, x)
		}
	}
	for i := 0; i+32 <= len(all); i += 61 {
		if rank(all[i:i+32]) != 32 {
			t.Fatalf("a burst from bit %d from the end on does nothing", i)
		}
	}
	sealed := sum.Seal(some(longest, 13))
	one := sum.Of(sealed)
	for i := 0; i < len(all); i += 4999 {
		if x := turned(sealed, len(all)-1-i); sum.Of(x)^one != all[i] || !refused(x) {
			t.Fatalf("bit %d from the end: not what was reckoned", i)
		}
	}
}

// rank tells how many of some sums none of the others make together.
func rank(l []uint32) int {
	var by [32]uint32
	n := 0
	for _, x := range l {
		for x != 0 {
			top := bits.Len32(x) - 1
			if by[top] == 0 {
				by[top] = x
				n++
				break
			}
			x ^= by[top]
		}
	}
	return n
}
