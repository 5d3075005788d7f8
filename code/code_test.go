package code_test

import (
	"bytes"
	"encoding/binary"
	"math"
	"slices"
	"strings"
	"testing"

	"scrivener/api"
	"scrivener/code"
)

// some tells n bytes, unlike for unlike seeds, the same ones at each run.
func some(n int, seed uint32) []byte {
	b := make([]byte, n)
	for i := range b {
		seed = seed*1664525 + 1013904223
		b[i] = byte(seed >> 24)
	}
	return b
}

// part is one of any sort, to be written, or as it was read.
type part struct {
	sort string // as the calls are named
	n    uint64
	b    []byte
	most int // of a text: the most that is said when it is read
}

func u8(x uint8) part         { return part{sort: "U8", n: uint64(x)} }
func u32(x uint32) part       { return part{sort: "U32", n: uint64(x)} }
func short(x uint64) part     { return part{sort: "Uint", n: x} }
func text(s string) part      { return part{sort: "Text", b: []byte(s), most: len(s)} }
func raw(b []byte) part       { return part{sort: "Raw", b: b} }
func (p part) say(n int) part { p.most = n; return p }

// write has the part written.
func (p part) write(w *code.Writer) {
	switch p.sort {
	case "U8":
		w.U8(uint8(p.n))
	case "U32":
		w.U32(uint32(p.n))
	case "Uint":
		w.Uint(p.n)
	case "Text":
		w.Text(string(p.b))
	case "Raw":
		w.Raw(p.b)
	}
}

// read has a part of that sort read: as many raw bytes, a text of at most as many bytes as p says.
func (p part) read(r *code.Reader) part {
	switch p.sort {
	case "U8":
		p.n = uint64(r.U8())
	case "U32":
		p.n = uint64(r.U32())
	case "Uint":
		p.n = r.Uint()
	case "Text":
		p.b = []byte(r.Text(p.most))
	case "Raw":
		p.b = r.Raw(len(p.b))
	}
	return p
}

// same tells whether two parts are the same.
func (p part) same(q part) bool {
	return p.sort == q.sort && p.n == q.n && bytes.Equal(p.b, q.b)
}

// none tells whether nothing was read.
func (p part) none() bool { return p.n == 0 && len(p.b) == 0 }

// said tells a part's bytes as the chapter's words say them, not by way of the package.
func (p part) said() []byte {
	switch p.sort {
	case "U8":
		return []byte{byte(p.n)}
	case "U32":
		return binary.LittleEndian.AppendUint32(nil, uint32(p.n))
	case "Uint":
		return binary.AppendUvarint(nil, p.n)
	case "Text":
		return append(binary.AppendUvarint(nil, uint64(len(p.b))), p.b...)
	}
	return p.b
}

// written tells the bytes of parts, one behind the other.
func written(parts ...part) []byte {
	w := code.NewWriter()
	for _, p := range parts {
		p.write(w)
	}
	return w.Bytes()
}

// shorts are numbers around each place at which one gets another digit, and others.
func shorts() []uint64 {
	l := []uint64{0, 1, 2, 63, 64, 200, 255, 256, 300, 16384, api.MaxCount, math.MaxInt64, math.MaxUint64 - 1, math.MaxUint64}
	for i := range 64 {
		x := uint64(1) << i
		l = append(l, x-1, x, x+1, x|1<<(i/2))
	}
	for i := range 200 {
		l = append(l, binary.LittleEndian.Uint64(some(8, uint32(i)))>>(i%64))
	}
	return l
}

// many are parts of all sorts, with the edges of each.
func many() []part {
	l := []part{
		u8(0), u8(1), u8(127), u8(128), u8(200), u8(255),
		u32(0), u32(1), u32(255), u32(256), u32(1 << 16), u32(1 << 24), u32(0x04030201), u32(math.MaxUint32),
		text(""), text("a"), text("é"), text("\x00\xff\x80"), text(strings.Repeat("x", 127)), text(strings.Repeat("y", 128)), text(string(some(16384, 1))),
		raw(nil), raw([]byte{0}), raw([]byte{128, 128, 1}), raw(some(300, 2)),
	}
	for _, x := range []uint64{0, 1, 127, 128, 129, 16383, 16384, 1<<63 - 1, 1 << 63, math.MaxUint64} {
		l = append(l, short(x))
	}
	return l
}

// P2.1: the chapter's examples.
func TestWrittenExamples(t *testing.T) {
	w := code.NewWriter()
	if w.Len() != 0 || len(w.Bytes()) != 0 {
		t.Errorf("a new one has %X", w.Bytes())
	}
	for _, c := range []struct {
		name  string
		write func(w *code.Writer)
		want  string
	}{
		{"U8 200", func(w *code.Writer) { w.U8(200) }, "\xc8"},
		{"U32 1", func(w *code.Writer) { w.U32(1) }, "\x01\x00\x00\x00"},
		{"U32 04030201", func(w *code.Writer) { w.U32(0x04030201) }, "\x01\x02\x03\x04"},
		{"Uint 0", func(w *code.Writer) { w.Uint(0) }, "\x00"},
		{"Uint 127", func(w *code.Writer) { w.Uint(127) }, "\x7f"},
		{"Uint 128", func(w *code.Writer) { w.Uint(128) }, "\x80\x01"},
		{"Uint 300", func(w *code.Writer) { w.Uint(300) }, "\xac\x02"},
		{"Uint 2^64 - 1", func(w *code.Writer) { w.Uint(math.MaxUint64) }, "\xff\xff\xff\xff\xff\xff\xff\xff\xff\x01"},
		{"Text é", func(w *code.Writer) { w.Text("é") }, "\x02\xc3\xa9"},
		{"Text of none", func(w *code.Writer) { w.Text("") }, "\x00"},
		{"Raw none", func(w *code.Writer) { w.Raw(nil) }, ""},
		{"Raw of none", func(w *code.Writer) { w.Raw([]byte{}) }, ""},
		{"Raw", func(w *code.Writer) { w.Raw([]byte{5, 0, 200}) }, "\x05\x00\xc8"},
		{"Put(3, 2)", func(w *code.Writer) { w.Put(3, 2) }, "\x03\x02"},
		{"Put()", func(w *code.Writer) { w.Put() }, ""},
		{"Put(0, 128, 1)", func(w *code.Writer) { w.Put(0, 128, 1) }, "\x00\x80\x01\x01"},
	} {
		alone := code.NewWriter()
		c.write(alone)
		if string(alone.Bytes()) != c.want || alone.Len() != len(c.want) {
			t.Errorf("%s: %X, %d bytes", c.name, alone.Bytes(), alone.Len())
		}
		was := w.Bytes()
		c.write(w)
		if string(w.Bytes()) != string(was)+c.want || w.Len() != len(was)+len(c.want) {
			t.Errorf("%s, behind %X: %X, %d bytes", c.name, was, w.Bytes(), w.Len())
		}
	}
}

// P2.1: each part's bytes are those that the words say.
func TestWrittenByTheWords(t *testing.T) {
	parts := many()
	for x := range 256 {
		parts = append(parts, u8(uint8(x)))
	}
	for _, x := range shorts() {
		parts = append(parts, short(x), u32(uint32(x)))
	}
	for n := range 300 {
		parts = append(parts, text(string(some(n, uint32(n)))), raw(some(n, uint32(n)+1000)))
	}
	for _, p := range parts {
		if b := written(p); !bytes.Equal(b, p.said()) {
			t.Errorf("%s %d %X: %X", p.sort, p.n, p.b, b)
		}
	}
}

// P2.1: Put is Uint of each.
func TestPut(t *testing.T) {
	w := code.NewWriter()
	w.Put(shorts()...)
	var want []byte
	for _, x := range shorts() {
		want = append(want, short(x).said()...)
	}
	if !bytes.Equal(w.Bytes(), want) {
		t.Errorf("%X, not %X", w.Bytes(), want)
	}
}

// P2.2: the chapter's examples.
func TestReadExamples(t *testing.T) {
	r := code.NewReader([]byte{0x81, 0x80, 0})
	if x := r.Uint(); x != 0 || r.Left() != 3 || r.Err() != api.ErrForm {
		t.Errorf("81 80 00: %d, %d left, %d", x, r.Left(), r.Err())
	}
	r = code.NewReader([]byte{0x81, 0})
	if x := r.Uint(); x != 0 || r.Left() != 2 || r.Err() != api.ErrForm {
		t.Errorf("81 00: %d, %d left, %d", x, r.Left(), r.Err())
	}
	b := []byte{2, 0x61, 0x62, 0x63}
	r = code.NewReader(b)
	if s := r.Text(2); s != "ab" || r.Left() != 1 || r.Err() != api.OK {
		t.Errorf("Text(2): %q, %d left, %d", s, r.Left(), r.Err())
	}
	r = code.NewReader(b)
	if s := r.Text(1); s != "" || r.Left() != 4 || r.Err() != api.ErrForm {
		t.Errorf("Text(1): %q, %d left, %d", s, r.Left(), r.Err())
	}
	r = code.NewReader([]byte{5})
	if x := r.Raw(2); len(x) != 0 || r.End() != api.ErrForm || r.Left() != 1 {
		t.Errorf("Raw(2): %X, %d, %d left", x, r.End(), r.Left())
	}
}

// P2.2: what was written is read, part by part, and what is left is told between.
func TestRead(t *testing.T) {
	for _, p := range many() {
		b := written(p)
		r := code.NewReader(b)
		if r.Left() != len(b) || r.Err() != api.OK {
			t.Errorf("%s: a new one has %d left of %d, %d", p.sort, r.Left(), len(b), r.Err())
		}
		if q := p.read(r); !q.same(p) || r.Left() != 0 || r.Err() != api.OK || r.End() != api.OK || r.Err() != api.OK {
			t.Errorf("%s %d %X: %d %X, %d left, %d", p.sort, p.n, p.b, q.n, q.b, r.Left(), r.Err())
		}
	}
}

// P2.2: Fail and End.
func TestFailEnd(t *testing.T) {
	r := code.NewReader([]byte{7, 8})
	if x := r.U8(); x != 7 {
		t.Errorf("%d", x)
	}
	r.Fail()
	if x := r.U8(); x != 0 || r.Err() != api.ErrForm || r.Left() != 1 || r.End() != api.ErrForm {
		t.Errorf("behind Fail: %d, %d, %d left", x, r.Err(), r.Left())
	}
	r = code.NewReader(nil)
	r.Fail()
	if r.Err() != api.ErrForm || r.End() != api.ErrForm || r.Left() != 0 {
		t.Errorf("Fail at the end: %d, %d", r.Err(), r.End())
	}
	r = code.NewReader([]byte{7, 8})
	r.U8()
	if r.End() != api.ErrForm || r.Err() != api.ErrForm || r.Left() != 1 {
		t.Errorf("End with a byte left: %d, %d left", r.Err(), r.Left())
	}
	if x := r.U8(); x != 0 || r.Left() != 1 {
		t.Errorf("behind End with a byte left: %d, %d left", x, r.Left())
	}
	r = code.NewReader([]byte{7})
	r.U8()
	if r.End() != api.OK || r.End() != api.OK || r.Err() != api.OK {
		t.Errorf("End with nothing left: %d", r.Err())
	}
	if x := r.Raw(0); len(x) != 0 || r.Err() != api.OK {
		t.Errorf("none behind End: %X, %d", x, r.Err())
	}
	if x := r.U8(); x != 0 || r.End() != api.ErrForm {
		t.Errorf("one behind End: %d, %d", x, r.End())
	}
}

// faults tells, of bytes, what can't be read at their front.
func faults() []struct {
	name string
	b    []byte
	ask  part
} {
	long := bytes.Repeat([]byte{0x80}, 1000)
	nines := bytes.Repeat([]byte{0xff}, 9)
	return []struct {
		name string
		b    []byte
		ask  part
	}{
		{"U8 of nothing", nil, u8(0)},
		{"U32 of nothing", nil, u32(0)},
		{"U32 of three", []byte{1, 2, 3}, u32(0)},
		{"Uint of nothing", nil, short(0)},
		{"Uint without its last digit", []byte{0x80}, short(0)},
		{"Uint of 0 by two digits", []byte{0x80, 0}, short(0)},
		{"Uint of 1 by two digits", []byte{0x81, 0, 5}, short(0)},
		{"Uint of 128 by three digits", []byte{0x80, 0x81, 0}, short(0)},
		{"Uint of 2^63 - 1 by ten digits", append(slices.Clone(nines), 0), short(0)},
		{"Uint of 0 by ten digits", append(slices.Clone(long[:9]), 0), short(0)},
		{"Uint of 2^64", append(slices.Clone(long[:9]), 2), short(0)},
		{"Uint of one past and all ones", append(slices.Clone(nines), 3), short(0)},
		{"Uint of a last digit 127", append(slices.Clone(nines), 127), short(0)},
		{"Uint of eleven digits", append(slices.Clone(nines), 0x81, 1), short(0)},
		{"Uint of eleven digits, the last one 0", append(slices.Clone(nines), 0x81, 0), short(0)},
		{"Uint of eleven digits, all but the last one 0", append(slices.Clone(long[:10]), 1), short(0)},
		{"Uint of twelve digits", append(slices.Clone(long[:11]), 2), short(0)},
		{"Uint of a thousand digits", append(slices.Clone(long), 1), short(0)},
		{"Uint without an end", long, short(0)},
		{"Text of nothing", nil, text("").say(9)},
		{"Text without bytes", []byte{1}, text("").say(9)},
		{"Text that lacks one", []byte{3, 'a', 'b'}, text("").say(9)},
		{"Text that is too long", []byte{3, 'a', 'b', 'c'}, text("").say(2)},
		{"Text that is too long, and lacks one", []byte{4, 'a', 'b', 'c'}, text("").say(3)},
		{"Text of one where none may be", []byte{1, 'a'}, text("").say(0)},
		{"Text of none, at most -1", []byte{0, 'a'}, text("").say(-1)},
		{"Text of one, at most -1", []byte{1, 'a'}, text("").say(-1)},
		{"Text, at most the least int", []byte{0, 'a'}, text("").say(math.MinInt)},
		{"Text of 2^64 - 1", append(slices.Clone(nines), 1, 'a'), text("").say(math.MaxInt)},
		{"Text of 2^63", append(slices.Clone(long[:9]), 1, 'a'), text("").say(math.MaxInt)},
		{"Text of 2^32", []byte{0x80, 0x80, 0x80, 0x80, 0x10, 'a'}, text("").say(math.MaxInt)},
		{"Text of 2^63 - 1", append(slices.Clone(nines[:8]), 0x7f, 'a'), text("").say(math.MaxInt)},
		{"Text whose number has a digit too many", []byte{0x81, 0, 'a'}, text("").say(9)},
		{"Text whose number has no end", []byte{0x81}, text("").say(9)},
		{"Raw of nothing", nil, raw([]byte{1})},
		{"Raw of one too few", []byte{1, 2}, raw(make([]byte, 3))},
	}
}

// P2.2, P2.7: where there is a fault nothing is answered, the place stays, and nothing is read any more.
func TestFaults(t *testing.T) {
	for _, c := range faults() {
		for ahead := range 3 {
			r := code.NewReader(append(some(ahead, 4), c.b...))
			r.Raw(ahead)
			if q := c.ask.read(r); !q.none() || r.Err() != api.ErrForm || r.Left() != len(c.b) {
				t.Errorf("%s: %d %X, %d, %d left of %d", c.name, q.n, q.b, r.Err(), r.Left(), len(c.b))
			}
			stays(t, c.name, r)
		}
	}
}

// stays looks whether a reader that has a fault answers nothing, and stays at its place.
func stays(t *testing.T, name string, r *code.Reader) {
	t.Helper()
	left := r.Left()
	for range 2 {
		for _, p := range []part{u8(0), u32(0), short(0), text("").say(math.MaxInt), text("").say(0), raw(nil), raw([]byte{1})} {
			if q := p.read(r); !q.none() || r.Left() != left || r.Err() != api.ErrForm {
				t.Errorf("%s: %s behind it: %d %X, %d, %d left of %d", name, p.sort, q.n, q.b, r.Err(), r.Left(), left)
			}
		}
		r.Fail()
		if r.End() != api.ErrForm || r.Err() != api.ErrForm || r.Left() != left {
			t.Errorf("%s: behind it: %d, %d left of %d", name, r.Err(), r.Left(), left)
		}
	}
}

// P2.2: raw bytes, as many as there are, and fewer; a negative number of them is a fault.
func TestRaw(t *testing.T) {
	b := some(20, 3)
	for n := -3; n <= 23; n++ {
		r := code.NewReader(b)
		x := r.Raw(n)
		if n < 0 || n > len(b) {
			if len(x) != 0 || r.Left() != len(b) || r.Err() != api.ErrForm {
				t.Errorf("%d: %X, %d left, %d", n, x, r.Left(), r.Err())
			}
			stays(t, "Raw", r)
		} else if !bytes.Equal(x, b[:n]) || r.Left() != len(b)-n || r.Err() != api.OK {
			t.Errorf("%d: %X, %d left, %d", n, x, r.Left(), r.Err())
		}
	}
	for _, n := range []int{math.MinInt, math.MinInt32, math.MaxInt32, math.MaxInt} {
		if r := code.NewReader(b); len(r.Raw(n)) != 0 || r.Left() != len(b) || r.Err() != api.ErrForm {
			t.Errorf("%d: %d left, %d", n, r.Left(), r.Err())
		}
	}
	if r := code.NewReader(nil); len(r.Raw(0)) != 0 || r.End() != api.OK {
		t.Errorf("none of none: %d", r.Err())
	}
}

// P2.3: zero ones are such as New makes.
func TestZero(t *testing.T) {
	var w code.Writer
	if w.Len() != 0 || len(w.Bytes()) != 0 {
		t.Errorf("a zero writer has %X", w.Bytes())
	}
	for _, p := range many() {
		was := w.Bytes()
		p.write(&w)
		if want := append(was, p.said()...); !bytes.Equal(w.Bytes(), want) || w.Len() != len(want) {
			t.Errorf("a zero writer: %s %d %X", p.sort, p.n, p.b)
		}
	}
	w = code.Writer{}
	w.Put(3, 2)
	if string(w.Bytes()) != "\x03\x02" {
		t.Errorf("a zero writer: %X", w.Bytes())
	}
	var r code.Reader
	if r.Left() != 0 || r.Err() != api.OK || r.End() != api.OK || len(r.Raw(0)) != 0 || r.Err() != api.OK {
		t.Errorf("a zero reader: %d left, %d", r.Left(), r.Err())
	}
	if r.U8() != 0 || r.Err() != api.ErrForm {
		t.Errorf("a zero reader: %d", r.Err())
	}
	for _, p := range []part{u32(0), short(0), text("").say(5), raw([]byte{1})} {
		var r code.Reader
		if q := p.read(&r); !q.none() || r.Err() != api.ErrForm || r.Left() != 0 {
			t.Errorf("a zero reader: %s: %d, %d left", p.sort, r.Err(), r.Left())
		}
		stays(t, "a zero reader", &r)
	}
	r = code.Reader{}
	r.Fail()
	stays(t, "a zero reader, failed", &r)
}

// P2.3: a nil writer takes nothing, and has nothing; of a nil reader there was a fault, and nothing is left.
func TestNil(t *testing.T) {
	var w *code.Writer
	for _, p := range many() {
		p.write(w)
	}
	w.Put(1, 2)
	w.Put()
	if w.Len() != 0 || len(w.Bytes()) != 0 {
		t.Errorf("a nil writer has %X", w.Bytes())
	}
	var r *code.Reader
	if r.Err() != api.ErrForm || r.End() != api.ErrForm || r.Left() != 0 {
		t.Errorf("a nil reader: %d, %d, %d left", r.Err(), r.End(), r.Left())
	}
	stays(t, "a nil reader", r)
	if x := r.Raw(-1); len(x) != 0 {
		t.Errorf("a nil reader: %X", x)
	}
}

// P2.3: what a writer is handed is not kept, nor changed, and what it tells is not its own memory.
func TestWriterApart(t *testing.T) {
	room := some(40, 6)
	was := slices.Clone(room)
	w := code.NewWriter()
	w.Raw(room[:10])
	w.Raw(room[10:20])
	w.Text("xy")
	numbers := []uint64{1, 2, 3}
	w.Put(numbers[:2]...)
	if !bytes.Equal(room, was) || !slices.Equal(numbers, []uint64{1, 2, 3}) {
		t.Errorf("handed in, and changed: %X, %d", room, numbers)
	}
	want := append(slices.Clone(was[:20]), 2, 'x', 'y', 1, 2)
	clear(room)
	clear(numbers)
	first, again := w.Bytes(), w.Bytes()
	if !bytes.Equal(first, want) {
		t.Errorf("changed with what was handed in: %X", first)
	}
	clear(first[:cap(first)])
	if !bytes.Equal(again, want) || !bytes.Equal(w.Bytes(), want) {
		t.Errorf("changed with what was told: %X, %X", again, w.Bytes())
	}
	w.U8(9)
	if !bytes.Equal(again, want) || !bytes.Equal(w.Bytes(), append(want, 9)) {
		t.Errorf("goes on: %X, %X", again, w.Bytes())
	}
	told := w.Bytes()
	_ = append(told, 1, 1, 1)
	w.U8(8)
	if !bytes.Equal(w.Bytes(), append(want, 9, 8)) {
		t.Errorf("room behind what was told is the writer's: %X", w.Bytes())
	}
}

// P2.3: a writer that alone is handed some bytes makes them its own.
func TestWriterKeepsNothing(t *testing.T) {
	room := some(40, 7)
	was := slices.Clone(room)
	w := code.NewWriter()
	w.Raw(room[:10])
	w.U8(1)
	if !bytes.Equal(room, was) {
		t.Errorf("room behind what was handed in is written: %X", room)
	}
	clear(room)
	if want := append(was[:10:10], 1); !bytes.Equal(w.Bytes(), want) {
		t.Errorf("%X, not %X", w.Bytes(), want)
	}
}

// P2.3: what a reader is handed is not kept, nor changed, and what it answers is new memory.
func TestReaderApart(t *testing.T) {
	room := some(40, 8)
	room[20], room[25] = 4, 0x81
	was := slices.Clone(room)
	r := code.NewReader(room[:30])
	copied := *r
	clear(room)
	a := r.Raw(10)
	b := r.Raw(10)
	s := r.Text(9)
	if !bytes.Equal(a, was[:10]) || !bytes.Equal(b, was[10:20]) || s != string(was[21:25]) {
		t.Errorf("changed with what was handed in: %X, %X, %X", a, b, s)
	}
	clear(room)
	clear(a[:cap(a)])
	_ = append(a, 1, 1, 1)
	_ = append(b, 1, 1, 1)
	if !bytes.Equal(b, was[10:20]) || !bytes.Equal(r.Raw(5), was[25:30]) {
		t.Errorf("what was answered is the reader's: %X", b)
	}
	if !bytes.Equal(room, make([]byte, 40)) {
		t.Errorf("what was handed in was changed: %X", room)
	}
	if x := copied.Raw(10); !bytes.Equal(x, was[:10]) || copied.Left() != 20 {
		t.Errorf("a copy has other bytes: %X", x)
	}
	room = slices.Clone(was)
	r = code.NewReader(room[:26])
	r.Raw(20)
	r.Text(9)
	r.Uint()
	r.End()
	if !bytes.Equal(room, was) {
		t.Errorf("what was handed in was changed: %X", room)
	}
}

// P2.4: two rows, one behind the other.
func TestTwoRows(t *testing.T) {
	parts := many()
	for i := range 300 {
		var a, b []part
		for _, x := range some(8, uint32(i)) {
			a = append(a, parts[int(x)%len(parts)])
		}
		for _, x := range some(8, uint32(i)+5000) {
			b = append(b, parts[int(x)%len(parts)])
		}
		a, b = a[:i%9], b[:i/9%9]
		all := written(append(slices.Clone(a), b...)...)
		if !bytes.Equal(all, append(written(a...), written(b...)...)) {
			t.Fatalf("row %d: not one behind the other", i)
		}
		r := code.NewReader(all)
		left := len(all)
		for k, p := range append(slices.Clone(a), b...) {
			left -= len(p.said())
			if q := p.read(r); !q.same(p) || r.Left() != left || r.Err() != api.OK {
				t.Fatalf("row %d, part %d: %s %d %X, not %d %X; %d left of %d, %d", i, k, p.sort, q.n, q.b, p.n, p.b, r.Left(), left, r.Err())
			}
		}
		if r.End() != api.OK {
			t.Fatalf("row %d: %d left", i, r.Left())
		}
	}
}

// P2.5: what stands behind a part plays no part; of a beginning that is not all of it none is read.
func TestWhatIsBehind(t *testing.T) {
	for _, p := range many() {
		b := written(p)
		for _, behind := range [][]byte{{0}, {1}, {127}, {128}, {255, 255}, some(5, 9), make([]byte, 20)} {
			r := code.NewReader(append(slices.Clone(b), behind...))
			if q := p.read(r); !q.same(p) || r.Left() != len(behind) || r.Err() != api.OK {
				t.Errorf("%s %d, %X behind: %d %X, %d left, %d", p.sort, p.n, behind, q.n, q.b, r.Left(), r.Err())
			}
			if !bytes.Equal(r.Raw(len(behind)), behind) || r.End() != api.OK {
				t.Errorf("%s %d: %X behind is not read", p.sort, p.n, behind)
			}
		}
		step := 1 + len(b)/100
		for n := 0; n < len(b); n += step {
			r := code.NewReader(b[:n])
			if q := p.read(r); !q.none() || r.Left() != n || r.Err() != api.ErrForm {
				t.Errorf("%s %d, %d bytes of %d: %d %X, %d left, %d", p.sort, p.n, n, len(b), q.n, q.b, r.Left(), r.Err())
			}
		}
	}
}

// P2.6: a number that is read has the bytes that were read, and no others, whatever the bytes are.
func TestNumbersOnce(t *testing.T) {
	try := func(b []byte) {
		t.Helper()
		r := code.NewReader(b)
		x := r.Uint()
		if r.Err() == api.OK {
			if took := b[:len(b)-r.Left()]; !bytes.Equal(took, short(x).said()) || !bytes.Equal(took, written(short(x))) {
				t.Fatalf("%X: %d, which has other bytes", took, x)
			}
			return
		}
		if x != 0 || r.Left() != len(b) {
			t.Fatalf("%X: %d, %d left", b, x, r.Left())
		}
		// What the library reads, and writes the same way again, should have been read.
		if y, n := binary.Uvarint(b); n > 0 && bytes.Equal(b[:n], short(y).said()) {
			t.Fatalf("%X: not read, and it is %d", b[:n], y)
		}
	}
	for x := range 1 << 16 {
		try([]byte{byte(x), byte(x >> 8)})
		try([]byte{byte(x) | 128, byte(x >> 8), 0})
		try([]byte{byte(x) | 128, byte(x>>8) | 128, 1})
	}
	for n := range 13 {
		high := bytes.Repeat([]byte{128}, n)
		ones := bytes.Repeat([]byte{255}, n)
		for x := range 256 {
			try(append(slices.Clone(high), byte(x)))
			try(append(slices.Clone(ones), byte(x)))
			try(append(slices.Clone(high), byte(x), 0))
			try(append(slices.Clone(ones), byte(x), 1))
		}
	}
	for i := range 20000 {
		b := some(12, uint32(i))
		for k := range i % 12 {
			b[k] |= 128
		}
		try(b)
	}
}

// P2.6: numbers come back, each of them; unlike ones have unlike bytes.
func TestNumbersBack(t *testing.T) {
	by := map[string]uint64{}
	for _, x := range shorts() {
		b := written(short(x))
		if y, ok := by[string(b)]; ok && y != x {
			t.Errorf("%d and %d: %X", x, y, b)
		}
		by[string(b)] = x
		r := code.NewReader(b)
		if y := r.Uint(); y != x || r.End() != api.OK {
			t.Errorf("%d: %d, %d", x, y, r.Err())
		}
		r = code.NewReader(written(u32(uint32(x))))
		if y := r.U32(); y != uint32(x) || r.End() != api.OK {
			t.Errorf("%d: %d, %d", uint32(x), y, r.Err())
		}
	}
}

// P2.6: a text is read just if the most that is said is as many bytes as it has, or more.
func TestTextMost(t *testing.T) {
	for _, n := range []int{0, 1, 2, 63, 64, 127, 128, 129, 300} {
		s := string(some(n, uint32(n)))
		b := append(written(text(s)), 7)
		for _, most := range []int{math.MinInt, -1, 0, 1, n - 2, n - 1, n, n + 1, n + 2, 1000, math.MaxInt32, math.MaxInt} {
			r := code.NewReader(b)
			x := r.Text(most)
			if most >= n && (x != s || r.Left() != 1 || r.Err() != api.OK) {
				t.Errorf("%d bytes, at most %d: %d bytes, %d left, %d", n, most, len(x), r.Left(), r.Err())
			}
			if most < n && (x != "" || r.Left() != len(b) || r.Err() != api.ErrForm) {
				t.Errorf("%d bytes, at most %d: %d bytes, %d left, %d", n, most, len(x), r.Left(), r.Err())
			}
		}
	}
}

// P2.7: a fault in the midst of a row stays, though what is behind could be read.
func TestFaultStays(t *testing.T) {
	b := written(u8(1), short(300), text("abc"), short(5), u32(6), raw([]byte{7}))
	r := code.NewReader(b)
	if r.U8() != 1 || r.Uint() != 300 {
		t.Errorf("ahead of it: %d left", r.Left())
	}
	left := r.Left()
	if s := r.Text(2); s != "" || r.Left() != left {
		t.Errorf("%q, %d left of %d", s, r.Left(), left)
	}
	stays(t, "a text too long", r)
	if s := r.Text(3); s != "" || r.Left() != left {
		t.Errorf("asked anew: %q, %d left of %d", s, r.Left(), left)
	}
}
